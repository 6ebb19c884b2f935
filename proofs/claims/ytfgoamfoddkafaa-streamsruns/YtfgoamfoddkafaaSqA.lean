/-
  Queues in memory: bytes, rows of what is left, lanes, the queue.
  Conditions: as at each lemma.
-/
import Derived.Test.YtfgoamfoddkafaaSqM
import Derived.Lib.MinMax
import Derived.Lib.SliceRun
import Derived.Lib.ConvBytes
import Derived.Laws.BytesArg
import Derived.Laws.AppendOwnNone
import Derived.Laws.MakeOwn
import Derived.Laws.OwnMore
import Derived.Deep.OwnRows
import Derived.Deep.Cut
import Derived.Deep.QuietTactic
import Derived.Deep.RegionHeld3
import Derived.BigQuiet
import Derived.BigRegion
import Derived.Laws.ResultCell
import Derived.Carry
import Derived.ArgAppend
namespace Go.Proofs.Ytfgoamfoddkafaa.Sq
open Go.ChangeShapes Go.WideShapes Go.ChangeAt Go.RowKit
open Ba (hidden Has Only cell_lt heap_lt)
open Ow (Own)
set_option linter.unusedVariables false

/-- bytes that can be read -/
def Row (w : World) (a : Option Addr) (len : Nat) (zs : List Int) : Prop :=
  zs.length = len ∧ Bytes zs ∧ len ≤ 140737488355328 ∧ (len = 0 ∨ ∃ b off, a = some ⟨b, off, none⟩ ∧ ∀ j, j < len → w.cell? ⟨b, off + j, none⟩ = some (.int .u8 (zs.getD j 0)))
theorem Row.later {w w' : World} {a : Option Addr} {len : Nat} {zs : List Int} (h : Row w a len zs) (hb : Below w.heap.size w w') : Row w' a len zs := by
  obtain ⟨h1, h2, h3, h4⟩ := h
  refine ⟨h1, h2, h3, h4.imp id ?_⟩
  rintro ⟨b, off, rfl, hc⟩
  exact ⟨b, off, rfl, fun j hj => (hb.cell (cell_lt (hc j hj))).trans (hc j hj)⟩
theorem Row.nil (w : World) (a : Option Addr) : Row w a 0 [] := ⟨rfl, Bytes.nil, by decide, .inl rfl⟩
theorem add_at (b off k : Nat) : (⟨b, off, none⟩ : Addr).add k = ⟨b, off + k, none⟩ := by unfold Addr.add; split <;> simp_all
theorem Row.open {w : World} {a : Option Addr} {len : Nat} {zs : List Int} (h : Row w a len zs) (hn : 0 < len) : ∃ b off, a = some ⟨b, off, none⟩ := by
  obtain ⟨b, off, e, _⟩ := h.2.2.2.resolve_left (by omega)
  exact ⟨b, off, e⟩
/-- bytes as cells -/
def cs (zs : List Int) : List Value := zs.map (.int .u8)
theorem cs_append (xs ys : List Int) : cs (xs ++ ys) = cs xs ++ cs ys := List.map_append
theorem cs_len (xs : List Int) : (cs xs).length = xs.length := List.length_map _
theorem cs_one (zs : List Int) : ∀ u ∈ cs zs, u.oneCell' = true := by
  intro u hu
  obtain ⟨z, _, rfl⟩ := List.mem_map.1 hu
  rfl
theorem Row.news {w : World} {ad : Addr} {len : Nat} {zs : List Int} (h : Row w (some ad) len zs) : ∀ j u, (cs zs)[j]? = some u → w.cell? (ad.add j) = some u := by
  intro j u hj
  rcases h.2.2.2 with h0 | ⟨b, off, he, hc⟩
  · rw [List.eq_nil_of_length_eq_zero (h.1.trans h0)] at hj; cases hj
  · cases he
    have hjl : j < zs.length := by
      rcases Nat.lt_or_ge j zs.length with h' | h'
      · exact h'
      · rw [List.getElem?_eq_none (by rw [cs_len]; exact h')] at hj; cases hj
    rw [add_at, hc j (by rw [← h.1]; exact hjl), List.getD_eq_getElem?_getD, List.getElem?_eq_getElem hjl]
    simp [cs, List.getElem?_eq_getElem hjl] at hj
    subst hj
    rfl
/-- bytes as a text -/
theorem Row.conv {w : World} {a : Option Addr} {n : Nat} {bs : List Int} (h : Row w a n bs) (cap : Nat) : (convert 34 9 (.slice a n cap)).run Try.prog w = .ok (.string (strOfNums bs)) w := by
  rcases Nat.eq_zero_or_pos n with rfl | hp
  · obtain rfl := List.eq_nil_of_length_eq_zero h.1
    cases a with
    | none => exact run_convert_bytes_nil w 34 5 Try.underlying34 Try.underlying5 0 cap 9 Try.underlying9
    | some x =>
      rw [run_convert_bytes_string w 34 9 5 _ 0 cap Try.underlying34 Try.underlying5 Try.underlying9]
      exact run_bytesToString w x 0 cap [] (run_loadCells_list w x [] (fun j v hj => by cases hj))
  · obtain ⟨b, off, rfl, hc⟩ := h.2.2.2.resolve_left (by omega)
    exact run_convert_bytes_arg w 34 5 Try.underlying34 Try.underlying5 b off n cap bs h.1 hc 9 Try.underlying9
theorem info5 : (Try.prog.info? 5).map (fun i => (i.zero, i.size, i.bytes)) = some (some (.int .u8 0), 1, 1) := by kernel_rfl
theorem infoP : (Try.prog.info? 44).map (fun i => (i.zero, i.size, i.bytes)) = some (some (.agg #[.int .u16 0, .int .u16 0, .int .u32 0, .bool false, .slice none 0 0, .bool false, .bool false]), 7, 48) := by kernel_rfl

/-- of what was there only such blocks may have turned -/
structure Mod (F : Nat → Prop) (w w' : World) : Prop where
  os : w'.os = w.os
  tape : w'.tape = w.tape
  output : w'.output = w.output
  size : w.heap.size ≤ w'.heap.size
  block : ∀ k, k < w.heap.size → ¬ F k → w'.heap[k]? = w.heap[k]?
theorem Mod.refl (F : Nat → Prop) (w : World) : Mod F w w := ⟨rfl, rfl, rfl, Nat.le_refl _, fun _ _ _ => rfl⟩
theorem Mod.trans {F G : Nat → Prop} {a b c : World} (h : Mod F a b) (k : Mod G b c) (hi : ∀ x, G x → F x ∨ a.heap.size ≤ x) : Mod F a c :=
  ⟨k.os.trans h.os, k.tape.trans h.tape, k.output.trans h.output, Nat.le_trans h.size k.size, fun i hl hn => (k.block i (Nat.lt_of_lt_of_le hl h.size) fun hg => by
    rcases hi i hg with h1 | h1
    · exact hn h1
    · omega).trans (h.block i hl hn)⟩
theorem Mod.mono {F G : Nat → Prop} {w w' : World} (h : Mod F w w') (hs : ∀ k, F k → G k) : Mod G w w' := ⟨h.os, h.tape, h.output, h.size, fun k hk hn => h.block k hk fun hf => hn (hs k hf)⟩
theorem Mod.below {F : Nat → Prop} {w w' : World} {n : Nat} (h : Mod F w w') (hn : n ≤ w.heap.size) (hF : ∀ k, F k → n ≤ k) : Below n w w' :=
  ⟨h.os, h.tape, h.output, h.size, fun k hk => h.block k (by omega) fun hf => by have := hF k hf; omega⟩
theorem Mod.of_below {F : Nat → Prop} {w w' : World} (h : Below w.heap.size w w') : Mod F w w' := ⟨h.os, h.tape, h.output, h.size, fun k hk _ => h.block k hk⟩
theorem Mod.grown {F : Nat → Prop} {w w' : World} {row : Option Nat} (h : w.grownBy w' row) (hr : ∀ k, row = some k → F k) : Mod F w w' :=
  ⟨h.os, h.tape, h.output, h.size, fun k hk hn => h.block k hk fun e => hn (hr k e.symm)⟩
theorem Mod.setCell {F : Nat → Prop} (w : World) {p : Addr} (hp : F p.block) (u : Value) : Mod F w (w.setCell p u) :=
  ⟨rfl, rfl, rfl, by simp [World.setCell], fun k hk hn => Below.heap_setCell _ _ _ _ fun e => hn (e ▸ hp)⟩
theorem Mod.has {F : Nat → Prop} {w w' : World} {b : Nat} {cs : Array Value} {t : TypeId} (h : Mod F w w') (hh : Has w b cs t) (hn : ¬ F b) : Has w' b cs t := (h.block b hh.lt hn).trans hh
theorem Mod.cell {F : Nat → Prop} {w w' : World} (h : Mod F w w') {p : Addr} {v : Value} (hc : w.cell? p = some v) (hn : ¬ F p.block) : w'.cell? p = some v :=
  (World.cell?_of_block (h.block p.block (cell_lt hc) hn)).trans hc
theorem Mod.row {F : Nat → Prop} {w w' : World} {a : Option Addr} {len : Nat} {zs : List Int} (h : Mod F w w') (hr : Row w a len zs) (hn : ∀ b, (∃ off, a = some ⟨b, off, none⟩) → ¬ F b) : Row w' a len zs := by
  obtain ⟨h1, h2, h3, h4⟩ := hr
  refine ⟨h1, h2, h3, h4.imp id ?_⟩
  rintro ⟨b, off, rfl, hc⟩
  exact ⟨b, off, rfl, fun j hj => h.cell (hc j hj) (hn b ⟨off, rfl⟩)⟩
theorem Mod.drew {F : Nat → Prop} {w w' : World} (h : Mod F w.drew w') : Mod F w w' := ⟨h.os, h.tape, h.output, h.size, h.block⟩

/-- bytes that nobody turns -/
def By (D : Nat → Prop) (w : World) (v : Value) (zs : List Int) : Prop :=
  ∃ g off cap cur, v = .slice (some ⟨g, off, none⟩) zs.length cap ∧ D g ∧ Has w g cur 5 ∧ zs.length ≤ cap ∧ cap ≤ 9223372036854775807 ∧ Bytes zs ∧ zs.length ≤ 65536 ∧ ∀ j, j < zs.length → cur[off + j]? = some (.int .u8 (zs.getD j 0))
theorem By.row {D : Nat → Prop} {w : World} {v : Value} {zs : List Int} (h : By D w v zs) : ∃ g off cap, v = .slice (some ⟨g, off, none⟩) zs.length cap ∧ D g ∧ g < w.heap.size ∧ zs.length ≤ cap ∧ cap ≤ 9223372036854775807 ∧ Row w (some ⟨g, off, none⟩) zs.length zs := by
  obtain ⟨g, off, cap, cur, e, hd, hh, hl, hc, hb, hm, hz⟩ := h
  exact ⟨g, off, cap, e, hd, hh.lt, hl, hc, rfl, hb, by omega, .inr ⟨g, off, rfl, fun j hj => hh.cell _ (hz j hj)⟩⟩
theorem By.stay {D F : Nat → Prop} {w w' : World} {v : Value} {zs : List Int} (h : By D w v zs) (hm : Mod F w w') (hF : ∀ k cur, D k → Has w k cur 5 → ¬ F k) : By D w' v zs := by
  obtain ⟨g, off, cap, cur, e, hd, hh, r⟩ := h
  exact ⟨g, off, cap, cur, e, hd, hm.has hh (hF g cur hd hh), r⟩
theorem By.of_own {D : Nat → Prop} {w : World} {base : Nat} {v : Value} {zs : List Int} (h : w.ownsRow base 5 1 v zs.length (cs zs)) (hb : Bytes zs) (h1 : 1 ≤ zs.length) (h2 : zs.length ≤ 65536) (hD : ∀ k, base ≤ k → D k) : By D w v zs := by
  rcases h.2 with ⟨_, h0⟩ | ⟨g, cap, cur, rfl, hg, hh, hcap, hcm, hsz, htake⟩
  · omega
  · refine ⟨g, 0, cap, cur, rfl, hD g hg, hh, hcap, by simpa [maxLen] using hcm, hb, h2, fun j hj => ?_⟩
    rw [Nat.mul_one] at htake
    have e := congrArg (fun t => t[j]?) htake
    simp only [List.getElem?_take, if_pos hj, cs, List.getElem?_map, List.getElem?_eq_getElem hj] at e
    rw [List.getD_eq_getElem?_getD, List.getElem?_eq_getElem hj, Nat.zero_add]
    simpa using e
theorem By.drop {D : Nat → Prop} {w : World} {g off cap : Nat} {zs : List Int} (h : By D w (.slice (some ⟨g, off, none⟩) zs.length cap) zs) (k : Nat) (hk : k ≤ zs.length) : By D w (.slice (some ⟨g, off + k, none⟩) (zs.length - k) (cap - k)) (zs.drop k) := by
  obtain ⟨g', off', cap', cur, e, hd, hh, hl, hc, hb, hm, hz⟩ := h
  cases e
  refine ⟨g, off + k, cap - k, cur, by rw [List.length_drop], hd, hh, by rw [List.length_drop]; omega, by omega, hb.drop k, by rw [List.length_drop]; omega, fun j hj => ?_⟩
  rw [List.length_drop] at hj
  rw [Nat.add_assoc, hz (k + j) (by omega), List.getD_eq_getElem?_getD, List.getD_eq_getElem?_getD, List.getElem?_drop]
theorem Row.take {w : World} {b off len : Nat} {zs : List Int} (h : Row w (some ⟨b, off, none⟩) len zs) (k : Nat) (hk : k ≤ len) : Row w (some ⟨b, off, none⟩) k (zs.take k) := by
  obtain ⟨h1, h2, h3, h4⟩ := h
  refine ⟨by rw [List.length_take]; omega, h2.take k, by omega, ?_⟩
  rcases h4 with h0 | ⟨b', off', e, hc⟩
  · exact .inl (by omega)
  · refine .inr ⟨b', off', e, fun j hj => ?_⟩
    rw [hc j (by omega), List.getD_eq_getElem?_getD, List.getD_eq_getElem?_getD, List.getElem?_take, if_pos hj]

-- rows of wide elements
section
variable {X : Type} {f : X → List Value} {k : Nat}
theorem flat_len (hf : ∀ x, (f x).length = k) (L : List X) : (L.flatMap f).length = L.length * k := by
  induction L with
  | nil => simp
  | cons x L ih => rw [List.flatMap_cons, List.length_append, ih, hf, List.length_cons, Nat.add_mul]; omega
theorem flat_at (hf : ∀ x, (f x).length = k) : ∀ (L : List X) {j : Nat} {x : X}, L[j]? = some x → ∀ {c : Nat}, c < k → (L.flatMap f)[j * k + c]? = (f x)[c]?
  | [], j, x, h, c, hc => by simp at h
  | y :: L, 0, x, h, c, hc => by
    simp at h
    subst h
    rw [List.flatMap_cons, List.getElem?_append_left (by rw [hf]; omega)]
    simp
  | y :: L, j + 1, x, h, c, hc => by
    rw [List.flatMap_cons, List.getElem?_append_right (by rw [hf, Nat.add_mul]; omega), hf, show (j + 1) * k + c - k = j * k + c by rw [Nat.add_mul]; omega]
    exact flat_at hf L (by simpa using h) hc
theorem flat_set (hf : ∀ x, (f x).length = k) : ∀ (L : List X) {j : Nat} {x y : X}, L[j]? = some x → ∀ {c : Nat} {u : Value}, c < k → (f x).set c u = f y → (L.flatMap f).set (j * k + c) u = (L.set j y).flatMap f
  | [], j, x, y, h, c, u, hc, hs => by simp at h
  | z :: L, 0, x, y, h, c, u, hc, hs => by
    simp at h
    subst h
    rw [List.flatMap_cons, List.set_append_left _ _ (by rw [hf]; omega), List.set_cons_zero, List.flatMap_cons]
    simp [hs]
  | z :: L, j + 1, x, y, h, c, u, hc, hs => by
    rw [List.flatMap_cons, List.set_append_right _ _ (by rw [hf, Nat.add_mul]; omega), hf, show (j + 1) * k + c - k = j * k + c by rw [Nat.add_mul]; omega, List.set_cons_succ, List.flatMap_cons]
    rw [flat_set hf L (by simpa using h) hc hs]
end
theorem has_cells (b : Nat) (t : TypeId) : ∀ (vs : List Value) (o : Nat) (w : World) (cur : Array Value), Has w b cur t → o + vs.length ≤ cur.size →
    ∃ cur', Has (w.setCells b o vs) b cur' t ∧ cur'.size = cur.size ∧ (∀ j, j < o ∨ o + vs.length ≤ j → cur'[j]? = cur[j]?) ∧ ∀ j, j < vs.length → cur'[o + j]? = vs[j]?
  | [], o, w, cur, h, hl => ⟨cur, h, rfl, fun _ _ => rfl, fun j hj => absurd hj (Nat.not_lt_zero _)⟩
  | v :: r, o, w, cur, h, hl => by
    rw [List.length_cons] at hl
    obtain ⟨cur', h1, h2, h3, h4⟩ := has_cells b t r (o + 1) (w.setCell ⟨b, o, none⟩ v) _ (h.set o v) (by simp; omega)
    refine ⟨cur', h1, by rw [h2]; simp, fun j hj => ?_, fun j hj => ?_⟩
    · rw [List.length_cons] at hj
      rw [h3 j (by omega), Array.getElem?_setIfInBounds, if_neg (by omega)]
    · cases j with
      | zero => rw [Nat.add_zero, h3 o (by omega), Array.getElem?_setIfInBounds, if_pos rfl, if_pos (by omega)]; rfl
      | succ j =>
        rw [List.length_cons] at hj
        have := h4 j (by omega)
        rw [show o + (j + 1) = o + 1 + j by omega, this]
        rfl
theorem mod_cells (F : Nat → Prop) (b : Nat) (hb : F b) : ∀ (vs : List Value) (o : Nat) (w : World), Mod F w (w.setCells b o vs)
  | [], o, w => Mod.refl _ _
  | v :: r, o, w => (Mod.setCell w (p := ⟨b, o, none⟩) hb v).trans (mod_cells F b hb r (o + 1) _) (fun x hx => .inl hx)

/-- a rest and where its bytes lie -/
structure RV where
  r : Rest
  v : Value
def pc (p : RV) : List Value := [.int .u16 p.r.st, .int .u16 p.r.sn, .int .u32 p.r.pr, .bool p.r.un, p.v, .bool p.r.bg, .bool true]
def pcs (L : List RV) : List Value := L.flatMap pc
theorem pc_len (p : RV) : (pc p).length = 7 := rfl
theorem pcs_len (L : List RV) : (pcs L).length = L.length * 7 := flat_len pc_len L
/-- rests in a row, from some place of their block on -/
def Rw (w : World) (v : Value) (ps : List RV) : Prop :=
  (v = .slice none 0 0 ∧ ps = []) ∨ ∃ g off cap cur, v = .slice (some ⟨g, off * 7, none⟩) ps.length cap ∧ 1 ≤ ps.length ∧ Has w g cur 44 ∧ ps.length ≤ cap ∧ (off + cap) * 7 = cur.size ∧ cap ≤ 9223372036854775807 ∧ ∀ j u, (pcs ps)[j]? = some u → cur[off * 7 + j]? = some u
theorem Rw.slice {w : World} {v : Value} {ps : List RV} (h : Rw w v ps) : ∃ a cap, v = .slice a ps.length cap := by
  rcases h with ⟨rfl, rfl⟩ | ⟨g, off, cap, cur, rfl, _⟩
  · exact ⟨_, _, rfl⟩
  · exact ⟨_, _, rfl⟩
theorem Rw.obj {w : World} {v : Value} {ps : List RV} (h : Rw w v ps) {k : Nat} (hk : v.ownBlock = some k) : ∃ cur, Has w k cur 44 := by
  rcases h with ⟨rfl, _⟩ | ⟨g, off, cap, cur, rfl, _, hh, _⟩
  · cases hk
  · cases hk; exact ⟨cur, hh⟩
theorem Rw.stay {w w' : World} {v : Value} {ps : List RV} {F : Nat → Prop} (h : Rw w v ps) (hm : Mod F w w') (hF : ∀ k, v.ownBlock = some k → ¬ F k) : Rw w' v ps := by
  rcases h with h | ⟨g, off, cap, cur, rfl, h1, hh, r⟩
  · exact .inl h
  · exact .inr ⟨g, off, cap, cur, rfl, h1, hm.has hh (hF g rfl), r⟩
theorem pc_one {p : RV} (h : p.v.oneCell' = true) : ∀ u ∈ pc p, u.oneCell' = true := by
  intro u hu
  simp only [pc, List.mem_cons, List.not_mem_nil, or_false] at hu
  rcases hu with rfl | rfl | rfl | rfl | rfl | rfl | rfl
  case inr.inr.inr.inr.inl => exact h
  all_goals rfl
/-- a rest is appended to a row -/
theorem app_rest {w : World} {v : Value} {ps : List RV} {p : RV} {g0 : Nat} (h : Rw w v ps) (hl : ps.length ≤ 1073741824) (h1 : p.v.oneCell' = true) (hN : Has w g0 (pc p).toArray 44) (ty : TypeId) :
    ∃ v' w2, (Builtin.append_ #[69, 69] ty #[v, .slice (some ⟨g0, 0, none⟩) 1 1]).run Try.prog w = .ok v' w2 ∧ Rw w2 v' (ps ++ [p]) ∧ Mod (fun k => v.ownBlock = some k) w w2 ∧ ∀ k, v'.ownBlock = some k → v.ownBlock = some k ∨ w.heap.size ≤ k := by
  obtain ⟨i, hi, hz, hs, hbt⟩ := info_parts infoP
  have hnews : ∀ j u, (pc p)[j]? = some u → w.cell? ((⟨g0, 0, none⟩ : Addr).add j) = some u := fun j u hj => by
    rw [add_at, Nat.zero_add]; exact hN.cell j (by rw [← hj]; exact List.getElem?_toArray (xs := pc p) (i := j))
  rcases h with ⟨rfl, rfl⟩ | ⟨g, off, cap, cur, rfl, hp1, hh, hcap, hsz, hcm, hcell⟩
  · refine ⟨_, _, run_append_nil (P := Try.prog) w 69 ty 44 i _ Try.underlying69 hi hz ⟨g0, 0, none⟩ 1 1 (pc p) (by rw [hs]; rfl) hnews (by decide) (by decide) (by rw [hbt]; decide), .inr ⟨w.heap.size, 0, _, _, rfl, by simp, heap_alloc_new w.drew _, ?_, ?_, ?_, ?_⟩, ?_, ?_⟩
    · exact grownCap_ge w 1 0 44
    · have hge := grownCap_ge w 1 0 44
      simp only [Array.size_append, List.size_toArray, size_zeroCells, pc_len, Nat.zero_add]
      show _ = 7 + (grownCap w 1 0 44 - 1) * 7
      omega
    · have := grownCap_le_maxLen w 1 0 44 (by decide)
      simpa [maxLen] using this
    · intro j u hj
      have hjl := (List.getElem?_eq_some_iff.1 hj).1
      simp only [pcs, List.nil_append, List.flatMap_cons, List.flatMap_nil, List.append_nil] at hj hjl
      rw [Nat.zero_mul, Nat.zero_add, Array.getElem?_append_left (by simpa using hjl)]
      rw [← hj]
      exact List.getElem?_toArray (xs := pc p) (i := j)
    · exact Mod.of_below ((Below.refl _ w).drew.alloc (Nat.le_refl _) _)
    · intro k hk
      cases hk
      exact .inr (Nat.le_refl _)
  · have hcells : ∀ j u, (pcs ps)[j]? = some u → w.cell? ((⟨g, off * 7, none⟩ : Addr).add j) = some u := fun j u hj => by
      rw [add_at]; exact hh.cell _ (hcell j u hj)
    by_cases hroom : ps.length + 1 ≤ cap
    · have hin : off * 7 + ps.length * 7 + 7 ≤ cur.size := by omega
      have e := run_append_room_cells (P := Try.prog) w 69 ty 44 i Try.underlying69 hi g (off * 7) ps.length cap ⟨g0, 0, none⟩ 1 1 (pc p) (by rw [hs]; rfl) hnews (pc_one h1) hroom
        (fun j hj => by rw [pc_len] at hj; rw [hs]; rw [hh.cell (off * 7 + ps.length * 7 + j) (Array.getElem?_eq_getElem (by omega))]; rfl)
        (fun j hj => hh.frozen _)
      rw [hs] at e
      obtain ⟨cur', k1, k2, k3, k4⟩ := has_cells g 44 (pc p) (off * 7 + ps.length * 7) w cur hh hin
      refine ⟨_, _, e, .inr ⟨g, off, cap, cur', by rw [List.length_append]; rfl, by simp, k1, by simpa using hroom, by rw [k2]; exact hsz, hcm, fun j u hj => ?_⟩, mod_cells (fun k => (Value.slice (some ⟨g, off * 7, none⟩) ps.length cap).ownBlock = some k) g rfl _ _ _, fun k hk => .inl hk⟩
      have hjl := (List.getElem?_eq_some_iff.1 hj).1
      rw [pcs_len, List.length_append] at hjl
      simp only [List.length_cons, List.length_nil] at hjl
      have ep : pcs (ps ++ [p]) = pcs ps ++ pc p := by unfold pcs; rw [List.flatMap_append]; simp
      rw [ep] at hj
      by_cases hlt : j < (pcs ps).length
      · rw [List.getElem?_append_left hlt] at hj
        rw [pcs_len] at hlt
        rw [k3 _ (.inl (by omega))]
        exact hcell j u hj
      · rw [List.getElem?_append_right (by omega)] at hj
        rw [pcs_len] at hlt hj
        have := k4 (j - ps.length * 7) (by rw [pc_len]; omega)
        rw [show off * 7 + ps.length * 7 + (j - ps.length * 7) = off * 7 + j by omega] at this
        rw [this]
        exact hj
    · have hlo : (pcs ps).length = ps.length * i.size := by rw [hs]; exact pcs_len ps
      have e := run_append_grow (P := Try.prog) w 69 ty 44 i _ Try.underlying69 hi hz ⟨g, off * 7, none⟩ ps.length cap (pcs ps) hlo hcells ⟨g0, 0, none⟩ 1 1 (pc p) (by rw [hs]; rfl) hnews (by omega) (by omega) (growslice_fits (by omega) (by rw [hbt]; omega))
      have hge := grownCap_ge w (ps.length + 1) cap 44
      refine ⟨_, _, e, .inr ⟨w.heap.size, 0, _, _, by rw [List.length_append]; simp only [Nat.zero_mul]; rfl, by simp, heap_alloc_new w.drew _, ?_, ?_, ?_, ?_⟩, Mod.of_below ((Below.refl _ w).drew.alloc (Nat.le_refl _) _), ?_⟩
      · rw [List.length_append]; exact hge
      · simp only [Array.size_append, List.size_toArray, size_zeroCells, pc_len, pcs_len, Nat.zero_add]
        show _ = ps.length * 7 + 7 + (grownCap w (ps.length + 1) cap 44 - (ps.length + 1)) * 7
        omega
      · have := grownCap_le_maxLen w (ps.length + 1) cap 44 (by unfold maxLen; omega)
        simpa [maxLen] using this
      · intro j u hj
        have ep : pcs (ps ++ [p]) = pcs ps ++ pc p := by unfold pcs; rw [List.flatMap_append]; simp
        rw [ep] at hj
        have hjl := (List.getElem?_eq_some_iff.1 hj).1
        rw [Nat.zero_mul, Nat.zero_add, Array.getElem?_append_left (by simpa using hjl), ← hj]
        have := List.getElem?_toArray (xs := pcs ps ++ pc p) (i := j)
        rw [← this]
        simp
      · intro k hk
        cases hk
        exact .inr (Nat.le_refl _)

/-- the lanes in block b -/
def Ln (w : World) (b n : Nat) (vs : Nat → Value) (sn : Nat → Int) : Prop :=
  ∃ cs, Has w b cs 71 ∧ ∀ i, i < n → cs[i * 2]? = some (vs i) ∧ cs[i * 2 + 1]? = some (.int .u16 (sn i))
/-- a queue in memory, its parts named -/
structure No (D : Nat → Prop) (w : World) (t b : Nat) (vs : Nat → Value) (P : Nat → List RV) (S : St) : Prop where
  q : Has w t #[.slice (some ⟨b, 0, none⟩) S.n S.n, .int .i64 S.last, .bool S.bgn, .int .i64 S.lim, .int .i64 S.wt, .int .i64 S.tk] 57
  ln : Ln w b S.n vs S.sn
  rw_ : ∀ i, i < S.n → Rw w (vs i) (P i)
  pr : ∀ i, i < S.n → (P i).map (·.r) = S.R i
  by_ : ∀ i p, i < S.n → p ∈ P i → By D w p.v p.r.d
  ap : ∀ i j k, i < S.n → j < S.n → (vs i).ownBlock = some k → (vs j).ownBlock = some k → i = j
/-- its blocks -/
def FC (t b n : Nat) (vs : Nat → Value) (k : Nat) : Prop := k = t ∨ k = b ∨ ∃ i, i < n ∧ (vs i).ownBlock = some k
section
variable {D : Nat → Prop} {w w' w1 : World} {t b : Nat} {vs : Nat → Value} {P : Nat → List RV} {S : St} {i : Nat}
theorem No.stay {F : Nat → Prop} (h : No D w t b vs P S) (hm : Mod F w w') (h1 : ∀ k, FC t b S.n vs k → ¬ F k) (h2 : ∀ k cur, D k → Has w k cur 5 → ¬ F k) : No D w' t b vs P S := by
  obtain ⟨cs, hc, hl⟩ := h.ln
  exact ⟨hm.has h.q (h1 t (.inl rfl)), ⟨cs, hm.has hc (h1 b (.inr (.inl rfl))), hl⟩, fun i hi => (h.rw_ i hi).stay hm (fun k hk => h1 k (.inr (.inr ⟨i, hi, hk⟩))), h.pr, fun i p hi hp => (h.by_ i p hi hp).stay hm h2, h.ap⟩
theorem No.fc_type (h : No D w t b vs P S) {k : Nat} (hk : FC t b S.n vs k) : ∃ cs ty, Has w k cs ty ∧ (ty = 57 ∨ ty = 71 ∨ ty = 44) := by
  rcases hk with rfl | rfl | ⟨i, hi, hk⟩
  · exact ⟨_, _, h.q, .inl rfl⟩
  · obtain ⟨cs, hc, _⟩ := h.ln
    exact ⟨_, _, hc, .inr (.inl rfl)⟩
  · obtain ⟨cur, hc⟩ := (h.rw_ i hi).obj hk
    exact ⟨_, _, hc, .inr (.inr rfl)⟩
theorem No.fc_lt (h : No D w t b vs P S) {k : Nat} (hk : FC t b S.n vs k) : k < w.heap.size := by
  obtain ⟨cs, ty, hh, _⟩ := h.fc_type hk
  exact hh.lt
theorem No.later (h : No D w t b vs P S) (hB : Below w.heap.size w w') : No D w' t b vs P S :=
  h.stay (F := fun k => w.heap.size ≤ k) (Mod.of_below hB) (fun k hk hf => by have := h.fc_lt hk; omega) (fun k cur _ hh hf => by have := hh.lt; omega)
theorem has_type {w : World} {k : Nat} {cs cs' : Array Value} {t t' : TypeId} (h : Has w k cs t) (h' : Has w k cs' t') : t = t' := Classical.byContradiction fun e => h.ne h' e rfl
theorem No.tb (h : No D w t b vs P S) : t ≠ b := by
  obtain ⟨cs, hc, _⟩ := h.ln
  exact h.q.ne hc (by decide)
theorem No.nb (h : No D w t b vs P S) (hi : i < S.n) : ∀ k, (vs i).ownBlock = some k → k ≠ b := fun k hk e => by
  obtain ⟨cs, hc, _⟩ := h.ln
  obtain ⟨cur, hu⟩ := (h.rw_ i hi).obj hk
  exact hu.ne hc (by decide) e
theorem No.nt (h : No D w t b vs P S) (hi : i < S.n) : ∀ k, (vs i).ownBlock = some k → k ≠ t := fun k hk e => by
  obtain ⟨cur, hu⟩ := (h.rw_ i hi).obj hk
  exact hu.ne h.q (by decide) e
/-- the queue's own numbers turn -/
theorem No.setQ (h : No D w t b vs P S) {j : Nat} {u : Value} {la : Nat} {bg : Bool} {wt tk : Int} (hq : (#[.slice (some ⟨b, 0, none⟩) S.n S.n, .int .i64 S.last, .bool S.bgn, .int .i64 S.lim, .int .i64 S.wt, .int .i64 S.tk] : Array Value).setIfInBounds j u = #[.slice (some ⟨b, 0, none⟩) S.n S.n, .int .i64 la, .bool bg, .int .i64 S.lim, .int .i64 wt, .int .i64 tk]) :
    No D (w.setCell ⟨t, j, none⟩ u) t b vs P ⟨S.n, S.lim, la, bg, S.R, S.sn, wt, tk⟩ := by
  have hm : Mod (fun k => k = t) w (w.setCell ⟨t, j, none⟩ u) := Mod.setCell (F := fun k => k = t) w (p := ⟨t, j, none⟩) rfl u
  obtain ⟨cs, hc, hl⟩ := h.ln
  refine ⟨?_, ⟨cs, hm.has hc (fun e => h.tb e.symm), hl⟩, fun i hi => (h.rw_ i hi).stay hm (fun k hk e => h.nt hi k hk e), h.pr, fun i p hi hp => (h.by_ i p hi hp).stay hm (fun k cur _ hh e => by subst e; exact hh.ne h.q (by decide) rfl), h.ap⟩
  have := h.q.set j u
  rw [hq] at this
  exact this
/-- one lane turns -/
theorem No.turn (h : No D w t b vs P S) (hi : i < S.n) (hm : Mod (fun k => k = b ∨ (vs i).ownBlock = some k) w w1) {v' : Value} {s' : Int} {ps' : List RV}
    (hl : ∀ cs, Has w b cs 71 → ∃ cs', Has w1 b cs' 71 ∧ cs'[i * 2]? = some v' ∧ cs'[i * 2 + 1]? = some (.int .u16 s') ∧ ∀ j, j ≠ i * 2 → j ≠ i * 2 + 1 → cs'[j]? = cs[j]?)
    (hr : Rw w1 v' ps') (hb : ∀ p ∈ ps', By D w1 p.v p.r.d) (hv : ∀ k, v'.ownBlock = some k → (vs i).ownBlock = some k ∨ w.heap.size ≤ k) :
    No D w1 t b (up vs i v') (up P i ps') ⟨S.n, S.lim, S.last, S.bgn, up S.R i (ps'.map (·.r)), up S.sn i s', S.wt, S.tk⟩ := by
  obtain ⟨cs, hc, hl0⟩ := h.ln
  obtain ⟨cs', hc', g1, g2, g3⟩ := hl cs hc
  refine ⟨hm.has h.q (fun e => e.elim (fun e => h.tb e) (fun e => h.nt hi t e rfl)), ⟨cs', hc', fun j hj => ?_⟩, fun j hj => ?_, fun j hj => ?_, fun j p hj hp => ?_, fun j j' k hj hj' h1 h2 => ?_⟩
  · show cs'[j * 2]? = some (up vs i v' j) ∧ cs'[j * 2 + 1]? = some (.int .u16 (up S.sn i s' j))
    by_cases e : j = i
    · subst e; rw [up_same, up_same]; exact ⟨g1, g2⟩
    · rw [up_ne _ _ e, up_ne _ _ e, g3 _ (by omega) (by omega), g3 _ (by omega) (by omega)]
      exact hl0 j hj
  · by_cases e : j = i
    · subst e; rw [up_same, up_same]; exact hr
    · rw [up_ne _ _ e, up_ne _ _ e]
      exact (h.rw_ j hj).stay hm (fun k hk hf => hf.elim (fun hf => h.nb hj k hk hf) (fun hf => e (h.ap j i k hj hi hk hf)))
  · show (up P i ps' j).map _ = up S.R i _ j
    by_cases e : j = i
    · subst e; rw [up_same, up_same]
    · rw [up_ne _ _ e, up_ne _ _ e]; exact h.pr j hj
  · by_cases e : j = i
    · subst e; rw [up_same] at hp; exact hb p hp
    · rw [up_ne _ _ e] at hp
      refine (h.by_ j p hj hp).stay hm (fun k cur _ hh hf => hf.elim (fun e => by subst e; exact hh.ne hc (by decide) rfl) (fun e => ?_))
      obtain ⟨cu, hu⟩ := (h.rw_ i hi).obj e
      exact hh.ne hu (by decide) rfl
  · have hlt : ∀ m, m < S.n → (vs m).ownBlock = some k → k < w.heap.size := fun m hm hk => h.fc_lt (.inr (.inr ⟨m, hm, hk⟩))
    by_cases e : j = i
    · by_cases e' : j' = i
      · rw [e, e']
      · subst e
        rw [up_same] at h1
        rw [up_ne _ _ e'] at h2
        rcases hv k h1 with h3 | h3
        · exact h.ap j j' k hj hj' h3 h2
        · have := hlt j' hj' h2; omega
    · rw [up_ne _ _ e] at h1
      by_cases e' : j' = i
      · subst e'
        rw [up_same] at h2
        rcases hv k h2 with h3 | h3
        · exact h.ap j j' k hj hj' h1 h3
        · have := hlt j hj h1; omega
      · rw [up_ne _ _ e'] at h2
        exact h.ap j j' k hj hj' h1 h2
end
/-- a queue in memory: t its place, F its blocks -/
def Cd (D : Nat → Prop) (w : World) (t : Nat) (S : St) (F : Nat → Prop) : Prop := Good S ∧ ∃ b vs P, No D w t b vs P S ∧ ∀ k, F k ↔ FC t b S.n vs k
theorem Cd.stay {D F G : Nat → Prop} {w w' : World} {t : Nat} {S : St} (h : Cd D w t S F) (hm : Mod G w w') (h1 : ∀ k, F k → ¬ G k) (h2 : ∀ k cur, D k → Has w k cur 5 → ¬ G k) : Cd D w' t S F := by
  obtain ⟨hg, b, vs, P, hN, hF⟩ := h
  exact ⟨hg, b, vs, P, hN.stay hm (fun k hk => h1 k ((hF k).2 hk)) h2, hF⟩
theorem Cd.later {D F : Nat → Prop} {w w' : World} {t : Nat} {S : St} (h : Cd D w t S F) (hB : Below w.heap.size w w') : Cd D w' t S F := by
  obtain ⟨hg, b, vs, P, hN, hF⟩ := h
  exact ⟨hg, b, vs, P, hN.later hB, hF⟩
theorem Cd.lt {D F : Nat → Prop} {w : World} {t : Nat} {S : St} (h : Cd D w t S F) {k : Nat} (hk : F k) : k < w.heap.size := by
  obtain ⟨hg, b, vs, P, hN, hF⟩ := h
  exact hN.fc_lt ((hF k).1 hk)
theorem Cd.type {D F : Nat → Prop} {w : World} {t : Nat} {S : St} (h : Cd D w t S F) {k : Nat} (hk : F k) : ∃ cs ty, Has w k cs ty ∧ (ty = 57 ∨ ty = 71 ∨ ty = 44) := by
  obtain ⟨hg, b, vs, P, hN, hF⟩ := h
  exact hN.fc_type ((hF k).1 hk)
theorem Cd.at {D F : Nat → Prop} {w : World} {t : Nat} {S : St} (h : Cd D w t S F) : F t := by
  obtain ⟨hg, b, vs, P, hN, hF⟩ := h
  exact (hF t).2 (.inl rfl)
end Go.Proofs.Ytfgoamfoddkafaa.Sq
