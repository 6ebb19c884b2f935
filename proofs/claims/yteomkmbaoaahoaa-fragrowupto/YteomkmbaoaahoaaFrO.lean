/-
  Strings as bytes, held in a list; the pieces of several messages one behind the other.
  Conditions: as at each lemma.
-/
import Derived.Test.YteomkmbaoaahoaaFrD
import Derived.Test.YteomkmbaoaahoaaFrM
import Derived.Test.YteomkmbaoaahoaaFrArgs
namespace Go.Proofs.Yteomkmbaoaahoaa.Fr
open Go.ChangeShapes Go.WideShapes Go.ChangeAt Go.RowKit
open Ba (hidden Has Only cell_lt heap_lt)
open Ow (Own)
set_option linter.unusedVariables false

/-- bytes in a block of bytes, from its first one on -/
def Held (base : Nat) (w : World) (v : Value) (zs : List Int) : Prop :=
  ∃ g cap cur mk, v = .slice (some ⟨g, 0, none⟩) zs.length cap ∧ base ≤ g ∧ w.heap[g]? = some (.cells cur 5 mk) ∧ (∀ j, j < zs.length → cur[j]? = some (.int .u8 (zs.getD j 0))) ∧ Bytes zs ∧ zs.length ≤ 140737488355328 ∧ zs.length ≤ cap
theorem Held.row {base : Nat} {w : World} {v : Value} {zs : List Int} (h : Held base w v zs) : ∃ g cap, v = .slice (some ⟨g, 0, none⟩) zs.length cap ∧ Row w (some ⟨g, 0, none⟩) zs.length zs ∧ zs.length ≤ cap := by
  obtain ⟨g, cap, cur, mk, rfl, hb, hg, hc, hz, hl, hcap⟩ := h
  refine ⟨g, cap, rfl, ⟨rfl, hz, hl, .inr ⟨g, 0, rfl, fun j hj => ?_⟩⟩, hcap⟩
  rw [Nat.zero_add]
  simp only [World.cell?, hg]
  exact hc j hj
theorem Held.later {base : Nat} {w w' : World} {v : Value} {zs : List Int} (h : Held base w v zs) (hb : Below w.heap.size w w') : Held base w' v zs := by
  obtain ⟨g, cap, cur, mk, rfl, h1, hg, h2⟩ := h
  exact ⟨g, cap, cur, mk, rfl, h1, (hb.block g (heap_lt hg)).trans hg, h2⟩
theorem Held.le {base base' : Nat} {w : World} {v : Value} {zs : List Int} (h : Held base w v zs) (hb : base' ≤ base) : Held base' w v zs := by
  obtain ⟨g, cap, cur, mk, rfl, h1, hg⟩ := h
  exact ⟨g, cap, cur, mk, rfl, Nat.le_trans hb h1, hg⟩
theorem Held.grown {base base' E s n : Nat} {w w' : World} {v u : Value} {zs : List Int} {xs : List Value} (h : Held base w v zs) (hu : w.ownsRow base' E s u n xs) (hg : w.grownBy w' u.ownBlock) (hE : E ≠ 5) : Held base w' v zs := by
  obtain ⟨g, cap, cur, mk, rfl, h1, hh, h2⟩ := h
  refine ⟨g, cap, cur, mk, rfl, h1, (hg.block g (heap_lt hh) ?_).trans hh, h2⟩
  intro e
  rcases own_obj hu with h0 | ⟨g', cur', e2, hg', _⟩
  · rw [h0] at e; cases e
  · rw [e2] at e
    cases e
    rw [hh] at hg'
    cases hg'
    exact hE rfl
theorem bytesOf_bytes (s : ByteArray) : Bytes (bytesOf s) := by
  intro n hn
  obtain ⟨c, _, rfl⟩ := List.mem_map.1 hn
  have := c.toNat_lt
  omega
theorem conv_str (w : World) (s : ByteArray) (hs : s.size ≤ 1048576) : ∃ cap w', (convert 9 22 (.string s)).run Try.prog w = .ok (.slice (some ⟨w.heap.size, 0, none⟩) s.size cap) w' ∧ Held w.heap.size w' (.slice (some ⟨w.heap.size, 0, none⟩) s.size cap) (bytesOf s) ∧ Below w.heap.size w w' := by
  refine ⟨_, _, Lib.run_convert_string_bytes w 9 22 5 s Try.underlying9 Try.underlying22 Try.underlying5, ⟨w.heap.size, grownCap w s.size 0 5, _, _, by rw [bytesOf_len], Nat.le_refl _, Lib.bytesWorld_at_new w 5 s, fun j hj => ?_, bytesOf_bytes s, by rw [bytesOf_len]; omega, by rw [bytesOf_len]; exact grownCap_ge w s.size 0 5⟩, ⟨rfl, rfl, rfl, by rw [Lib.bytesWorld_size]; omega, fun k hk => Lib.bytesWorld_at_old w 5 s k hk⟩⟩
  rw [bytesOf_len] at hj
  have h1 := Lib.bytesWorld_cell w 5 s j hj
  have h2 : (Lib.bytesCells w 5 s)[j]? = some (Value.int .u8 ((s.data.toList.getD j 0).toNat : Nat)) := by simpa [World.cell?, Lib.bytesWorld_at_new] using h1
  rw [h2]
  unfold bytesOf
  have hj' : j < s.data.toList.length := by rw [Array.length_toList]; exact hj
  rw [List.getD_eq_getElem?_getD, List.getD_eq_getElem?_getD, List.getElem?_map, List.getElem?_eq_getElem hj']
  rfl
/-- held texts in a list of one's own -/
def LH (base : Nat) (w : World) (v : Value) (ts : List T) : Prop := w.ownsRow base 22 1 v ts.length (tcs ts) ∧ ∀ t ∈ ts, Held base w t.1 t.2
theorem LH.later {base : Nat} {w w' : World} {v : Value} {ps : List T} (h : LH base w v ps) (hb : Below w.heap.size w w') : LH base w' v ps := ⟨ownLater h.1 hb, fun p hp => (h.2 p hp).later hb⟩
theorem LH.nil (base : Nat) (w : World) : LH base w (.slice none 0 0) [] := ⟨World.ownsRow_nil _ _ _ _, fun p hp => by cases hp⟩
theorem LH.form {base : Nat} {w : World} {v : Value} {ts : List T} (h : LH base w v ts) : ∃ a cap, v = .slice a ts.length cap := Ba.own_len h.1
theorem LH.txs {base : Nat} {w : World} {v : Value} {ts : List T} (h : LH base w v ts) (hn : ts.length ≤ 4398046511104) : ∃ a cap, v = .slice a ts.length cap ∧ Txs w a ts.length (ts.map (·.2)) := by
  obtain ⟨h1, h2⟩ := h
  have hcell : ∀ g cap, v = .slice (some ⟨g, 0, none⟩) ts.length cap → ∀ j u, (tcs ts)[j]? = some u → w.cell? ⟨g, 0 + j, none⟩ = some u := fun g cap e j u hj => by
    have := h1.cells (g := g) (by rw [e]; rfl) j u hj
    rwa [add_at] at this
  rcases h1.2 with ⟨rfl, h0⟩ | ⟨g, cap, cur, rfl, hg, hh, hcap, hcm, hsz, htake⟩
  · exact ⟨none, 0, by rw [h0], ⟨by simp, hn, .inl h0⟩⟩
  · refine ⟨_, cap, rfl, ⟨by simp, hn, .inr ⟨g, 0, rfl, fun j v hj => ?_⟩⟩⟩
    rw [List.getElem?_map] at hj
    cases hp : ts[j]? with
    | none => rw [hp] at hj; cases hj
    | some p =>
      rw [hp] at hj
      simp only [Option.map_some, Option.some.injEq] at hj
      subst hj
      obtain ⟨g', cap', e, hr, _⟩ := (h2 p (List.mem_of_getElem? hp)).row
      refine ⟨_, cap', ?_, hr⟩
      rw [← e]
      exact hcell _ _ rfl _ _ (by unfold tcs; rw [List.getElem?_map, hp]; rfl)
theorem app_held {base : Nat} {w : World} {v : Value} {ps : List T} {q : T} {g o c : Nat} (h : LH base w v ps) (hq : Held base w q.1 q.2) (hn : w.cell? ⟨g, o, none⟩ = some q.1) (hl : ps.length + 1 ≤ 5864062014805) (hb : base ≤ w.heap.size) :
    ∃ v' w', (Builtin.append_ #[41, 41] 41 #[v, .slice (some ⟨g, o, none⟩) 1 c]).run Try.prog w = .ok v' w' ∧ LH base w' v' (ps ++ [q]) ∧ w.grownBy w' v.ownBlock := by
  have hone : ∀ u ∈ [q.1], u.oneCell' = true := by
    intro u hu
    obtain rfl := List.mem_singleton.1 hu
    obtain ⟨a, cap, e, _⟩ := hq.row
    rw [e]; rfl
  obtain ⟨v', w', h1, h2, h3, _⟩ := Ba.append_at (P := Try.prog) (t := 41) (ty := 41) (c := c) (news := [q.1]) Try.underlying41 infoB rfl (by decide) h.1 (m := 1) rfl (ad := ⟨g, o, none⟩) (fun j u hj => by
    match j, hj with
    | 0, hj => cases hj; rw [add_at]; exact hn) hone (.inl (by decide)) (by unfold maxLen; omega) (by omega) hb
  refine ⟨v', w', h1, ⟨by unfold tcs; rw [List.map_append, List.length_append]; exact h2, fun p hp => ?_⟩, h3⟩
  rcases List.mem_append.1 hp with hp | hp
  · exact (h.2 p hp).grown h.1 h3 (by decide)
  · obtain rfl := List.mem_singleton.1 hp
    exact hq.grown h.1 h3 (by decide)
/-- pieces stay where a list of texts grows, and the other way round -/
theorem LP.beside {base : Nat} {w w' : World} {v u : Value} {ps : List P} {ts : List T} (h : LP base w v ps) (hu : LH base w u ts) (hg : w.grownBy w' u.ownBlock) : LP base w' v ps :=
  ⟨h.1.kept hg (own_diff h.1 hu.1 (by decide)), fun p hp => (h.2 p hp).grown hu.1 hg (by decide)⟩
theorem LH.beside {base : Nat} {w w' : World} {v u : Value} {ps : List P} {ts : List T} (hu : LH base w u ts) (h : LP base w v ps) (hg : w.grownBy w' v.ownBlock) : LH base w' u ts :=
  ⟨hu.1.kept hg (own_diff hu.1 h.1 (by decide)), fun p hp => (hu.2 p hp).grown h.1 hg (by decide)⟩
/-- how many bytes the first strings have -/
def sz (ss : List ByteArray) (k : Nat) : Nat := ((ss.take k).map (·.size)).sum
theorem sz_next {ss : List ByteArray} {k : Nat} {s : ByteArray} (h : ss[k]? = some s) : sz ss (k + 1) = sz ss k + s.size := by
  unfold sz
  rw [take_next h, List.map_append, List.sum_append]
  simp
theorem sz_le (ss : List ByteArray) (k : Nat) : sz ss k ≤ (ss.map (·.size)).sum := by
  unfold sz
  conv => rhs; rw [← List.take_append_drop k ss, List.map_append, List.sum_append]
  omega
/-- so far: the pieces are these messages -/
def Far (ss : List ByteArray) (k : Nat) (ps : List P) (ts : List T) : Prop := run s0 (ps.map pval) = some (ts.map (·.2), [], 0) ∧ ps.length ≤ sz ss k ∧ ts.length ≤ k
theorem Far.zero (ss : List ByteArray) : Far ss 0 [] [] := ⟨rfl, Nat.zero_le _, Nat.le_refl _⟩
theorem Far.skip {ss : List ByteArray} {k : Nat} {ps : List P} {ts : List T} {s : ByteArray} (h : Far ss k ps ts) (hs : ss[k]? = some s) : Far ss (k + 1) ps ts := ⟨h.1, by rw [sz_next hs]; have := h.2.1; omega, by have := h.2.2; omega⟩
theorem Far.more {ss : List ByteArray} {k n : Nat} {ps qs : List P} {ts : List T} {s : ByteArray} (h : Far ss k ps ts) (hs : ss[k]? = some s) (hn : 1 ≤ n) (h1 : 1 ≤ s.size) (h2 : s.size ≤ 65536) (hq : qs.map pval = cutV (bytesOf s) n) (u : Value) : Far ss (k + 1) (ps ++ qs) (ts ++ [(u, bytesOf s)]) := by
  have hl : qs.length ≤ s.size := by
    have e := congrArg List.length hq
    rw [List.length_map, cutV_len, bytesOf_len] at e
    have := cnt_le (len := s.size) (n := n) hn
    omega
  refine ⟨?_, by rw [sz_next hs, List.length_append]; have := h.2.1; omega, by rw [List.length_append]; have := h.2.2; simp; omega⟩
  rw [List.map_append, run_append, h.1, hq]
  show run (ts.map (·.2), [], 0) (cutV (bytesOf s) n) = _
  rw [cut_run hn (by rw [bytesOf_len]; exact h1) (by rw [bytesOf_len]; exact h2), List.map_append]
  rfl
theorem Strs.get {w : World} {a : Option Addr} {n k : Nat} {ss : List ByteArray} (h : Strs w a n ss) (hk : k < n) : ∃ b off s, a = some ⟨b, off, none⟩ ∧ ss[k]? = some s ∧ w.cell? ⟨b, off + k, none⟩ = some (.string s) := by
  obtain ⟨h1, h2⟩ := h
  obtain ⟨b, off, rfl, hc⟩ := h2.resolve_left (by omega)
  obtain ⟨s, hs⟩ : ∃ s, ss[k]? = some s := ⟨_, List.getElem?_eq_getElem (by omega)⟩
  exact ⟨b, off, s, rfl, hs, hc k s hs⟩
end Go.Proofs.Yteomkmbaoaahoaa.Fr
