/-
  Boxes in memory: bytes, rows of chunks, the code's box and its blocks.
  Conditions: as at each lemma.
-/
import Derived.Test.YtjceeckcfjjkkaaObM
import Derived.Lib.MinMax
import Derived.Lib.SliceRun
import Derived.Lib.ConvBytes
import Derived.Laws.BytesArg
import Derived.Laws.AppendOwnNone
import Derived.Laws.MakeOwn
import Derived.Laws.OwnMore
import Derived.Deep.OwnRows
import Derived.Deep.Cut
import Derived.Deep.QuietTactic
import Derived.Deep.RegionHeld3
import Derived.BigQuiet
import Derived.BigRegion
import Derived.Laws.ResultCell
import Derived.Carry
import Derived.ArgAppend
namespace Go.Proofs.Ytjceeckcfjjkkaa.Ob
open Go.ChangeShapes Go.WideShapes Go.ChangeAt Go.RowKit
open Ba (hidden Has Only cell_lt heap_lt)
open Ow (Own)
set_option linter.unusedVariables false

def Bytes (zs : List Int) : Prop := ∀ n ∈ zs, 0 ≤ n ∧ n < 256
theorem Bytes.nil : Bytes [] := fun n h => by cases h
theorem Bytes.append {xs ys : List Int} (h : Bytes xs) (k : Bytes ys) : Bytes (xs ++ ys) := fun n hn => (List.mem_append.1 hn).elim (h n) (k n)
theorem Bytes.take {xs : List Int} (h : Bytes xs) (k : Nat) : Bytes (xs.take k) := fun n hn => h n (List.mem_of_mem_take hn)
theorem Bytes.drop {xs : List Int} (h : Bytes xs) (k : Nat) : Bytes (xs.drop k) := fun n hn => h n (List.mem_of_mem_drop hn)
/-- bytes that can be read -/
def Row (w : World) (a : Option Addr) (len : Nat) (zs : List Int) : Prop :=
  zs.length = len ∧ Bytes zs ∧ len ≤ 140737488355328 ∧ (len = 0 ∨ ∃ b off, a = some ⟨b, off, none⟩ ∧ ∀ j, j < len → w.cell? ⟨b, off + j, none⟩ = some (.int .u8 (zs.getD j 0)))
theorem Row.later {w w' : World} {a : Option Addr} {len : Nat} {zs : List Int} (h : Row w a len zs) (hb : Below w.heap.size w w') : Row w' a len zs := by
  obtain ⟨h1, h2, h3, h4⟩ := h
  refine ⟨h1, h2, h3, h4.imp id ?_⟩
  rintro ⟨b, off, rfl, hc⟩
  exact ⟨b, off, rfl, fun j hj => (hb.cell (cell_lt (hc j hj))).trans (hc j hj)⟩
theorem Row.nil (w : World) (a : Option Addr) : Row w a 0 [] := ⟨rfl, Bytes.nil, by decide, .inl rfl⟩
theorem add_at (b off k : Nat) : (⟨b, off, none⟩ : Addr).add k = ⟨b, off + k, none⟩ := by unfold Addr.add; split <;> simp_all
theorem Row.open {w : World} {a : Option Addr} {len : Nat} {zs : List Int} (h : Row w a len zs) (hn : 0 < len) : ∃ b off, a = some ⟨b, off, none⟩ := by
  obtain ⟨b, off, e, _⟩ := h.2.2.2.resolve_left (by omega)
  exact ⟨b, off, e⟩
/-- bytes as cells -/
def cs (zs : List Int) : List Value := zs.map (.int .u8)
theorem cs_append (xs ys : List Int) : cs (xs ++ ys) = cs xs ++ cs ys := List.map_append
theorem cs_len (xs : List Int) : (cs xs).length = xs.length := List.length_map _
theorem cs_one (zs : List Int) : ∀ u ∈ cs zs, u.oneCell' = true := by
  intro u hu
  obtain ⟨z, _, rfl⟩ := List.mem_map.1 hu
  rfl
theorem Row.news {w : World} {ad : Addr} {len : Nat} {zs : List Int} (h : Row w (some ad) len zs) : ∀ j u, (cs zs)[j]? = some u → w.cell? (ad.add j) = some u := by
  intro j u hj
  rcases h.2.2.2 with h0 | ⟨b, off, he, hc⟩
  · rw [List.eq_nil_of_length_eq_zero (h.1.trans h0)] at hj; cases hj
  · cases he
    have hjl : j < zs.length := by
      rcases Nat.lt_or_ge j zs.length with h' | h'
      · exact h'
      · rw [List.getElem?_eq_none (by rw [cs_len]; exact h')] at hj; cases hj
    rw [add_at, hc j (by rw [← h.1]; exact hjl), List.getD_eq_getElem?_getD, List.getElem?_eq_getElem hjl]
    simp [cs, List.getElem?_eq_getElem hjl] at hj
    subst hj
    rfl
/-- bytes as a text -/
theorem Row.conv {w : World} {a : Option Addr} {n : Nat} {bs : List Int} (h : Row w a n bs) (cap : Nat) : (convert 38 9 (.slice a n cap)).run Try.prog w = .ok (.string (strOfNums bs)) w := by
  rcases Nat.eq_zero_or_pos n with rfl | hp
  · obtain rfl := List.eq_nil_of_length_eq_zero h.1
    cases a with
    | none => exact run_convert_bytes_nil w 38 5 Try.underlying38 Try.underlying5 0 cap 9 Try.underlying9
    | some x =>
      rw [run_convert_bytes_string w 38 9 5 _ 0 cap Try.underlying38 Try.underlying5 Try.underlying9]
      exact run_bytesToString w x 0 cap [] (run_loadCells_list w x [] (fun j v hj => by cases hj))
  · obtain ⟨b, off, rfl, hc⟩ := h.2.2.2.resolve_left (by omega)
    exact run_convert_bytes_arg w 38 5 Try.underlying38 Try.underlying5 b off n cap bs h.1 hc 9 Try.underlying9
theorem info5 : (Try.prog.info? 5).map (fun i => (i.zero, i.size, i.bytes)) = some (some (.int .u8 0), 1, 1) := by kernel_rfl
/-- of what was there only such blocks may have turned -/
structure Mod (F : Nat → Prop) (w w' : World) : Prop where
  os : w'.os = w.os
  tape : w'.tape = w.tape
  output : w'.output = w.output
  size : w.heap.size ≤ w'.heap.size
  block : ∀ k, k < w.heap.size → ¬ F k → w'.heap[k]? = w.heap[k]?
theorem Mod.refl (F : Nat → Prop) (w : World) : Mod F w w := ⟨rfl, rfl, rfl, Nat.le_refl _, fun _ _ _ => rfl⟩
theorem Mod.trans {F G : Nat → Prop} {a b c : World} (h : Mod F a b) (k : Mod G b c) (hi : ∀ x, G x → F x ∨ a.heap.size ≤ x) : Mod F a c :=
  ⟨k.os.trans h.os, k.tape.trans h.tape, k.output.trans h.output, Nat.le_trans h.size k.size, fun i hl hn => (k.block i (Nat.lt_of_lt_of_le hl h.size) fun hg => by
    rcases hi i hg with h1 | h1
    · exact hn h1
    · omega).trans (h.block i hl hn)⟩
theorem Mod.mono {F G : Nat → Prop} {w w' : World} (h : Mod F w w') (hs : ∀ k, F k → G k) : Mod G w w' := ⟨h.os, h.tape, h.output, h.size, fun k hk hn => h.block k hk fun hf => hn (hs k hf)⟩
theorem Mod.below {F : Nat → Prop} {w w' : World} {n : Nat} (h : Mod F w w') (hn : n ≤ w.heap.size) (hF : ∀ k, F k → n ≤ k) : Below n w w' :=
  ⟨h.os, h.tape, h.output, h.size, fun k hk => h.block k (by omega) fun hf => by have := hF k hf; omega⟩
theorem Mod.of_below {F : Nat → Prop} {w w' : World} (h : Below w.heap.size w w') : Mod F w w' := ⟨h.os, h.tape, h.output, h.size, fun k hk _ => h.block k hk⟩
theorem Mod.grown {F : Nat → Prop} {w w' : World} {row : Option Nat} (h : w.grownBy w' row) (hr : ∀ k, row = some k → F k) : Mod F w w' :=
  ⟨h.os, h.tape, h.output, h.size, fun k hk hn => h.block k hk fun e => hn (hr k e.symm)⟩
theorem Mod.setCell {F : Nat → Prop} (w : World) {p : Addr} (hp : F p.block) (u : Value) : Mod F w (w.setCell p u) :=
  ⟨rfl, rfl, rfl, by simp [World.setCell], fun k hk hn => Below.heap_setCell _ _ _ _ fun e => hn (e ▸ hp)⟩
theorem Mod.has {F : Nat → Prop} {w w' : World} {b : Nat} {cs : Array Value} {t : TypeId} (h : Mod F w w') (hh : Has w b cs t) (hn : ¬ F b) : Has w' b cs t := (h.block b hh.lt hn).trans hh
theorem Mod.cell {F : Nat → Prop} {w w' : World} (h : Mod F w w') {p : Addr} {v : Value} (hc : w.cell? p = some v) (hn : ¬ F p.block) : w'.cell? p = some v :=
  (World.cell?_of_block (h.block p.block (cell_lt hc) hn)).trans hc
theorem Mod.row {F : Nat → Prop} {w w' : World} {a : Option Addr} {len : Nat} {zs : List Int} (h : Mod F w w') (hr : Row w a len zs) (hn : ∀ b, (∃ off, a = some ⟨b, off, none⟩) → ¬ F b) : Row w' a len zs := by
  obtain ⟨h1, h2, h3, h4⟩ := hr
  refine ⟨h1, h2, h3, h4.imp id ?_⟩
  rintro ⟨b, off, rfl, hc⟩
  exact ⟨b, off, rfl, fun j hj => h.cell (hc j hj) (hn b ⟨off, rfl⟩)⟩
theorem Mod.drew {F : Nat → Prop} {w w' : World} (h : Mod F w.drew w') : Mod F w w' := ⟨h.os, h.tape, h.output, h.size, h.block⟩

/-- bytes that nobody turns -/
def By (D : Nat → Prop) (w : World) (v : Value) (zs : List Int) : Prop :=
  ∃ g off cap cur, v = .slice (some ⟨g, off, none⟩) zs.length cap ∧ D g ∧ Has w g cur 5 ∧ zs.length ≤ cap ∧ cap ≤ 9223372036854775807 ∧ Bytes zs ∧ zs.length ≤ 65536 ∧ ∀ j, j < zs.length → cur[off + j]? = some (.int .u8 (zs.getD j 0))
theorem By.row {D : Nat → Prop} {w : World} {v : Value} {zs : List Int} (h : By D w v zs) : ∃ g off cap, v = .slice (some ⟨g, off, none⟩) zs.length cap ∧ D g ∧ g < w.heap.size ∧ zs.length ≤ cap ∧ cap ≤ 9223372036854775807 ∧ Row w (some ⟨g, off, none⟩) zs.length zs := by
  obtain ⟨g, off, cap, cur, e, hd, hh, hl, hc, hb, hm, hz⟩ := h
  exact ⟨g, off, cap, e, hd, hh.lt, hl, hc, rfl, hb, by omega, .inr ⟨g, off, rfl, fun j hj => hh.cell _ (hz j hj)⟩⟩
theorem By.stay {D F : Nat → Prop} {w w' : World} {v : Value} {zs : List Int} (h : By D w v zs) (hm : Mod F w w') (hF : ∀ k cur, D k → Has w k cur 5 → ¬ F k) : By D w' v zs := by
  obtain ⟨g, off, cap, cur, e, hd, hh, r⟩ := h
  exact ⟨g, off, cap, cur, e, hd, hm.has hh (hF g cur hd hh), r⟩
theorem By.of_own {D : Nat → Prop} {w : World} {base : Nat} {v : Value} {zs : List Int} (h : w.ownsRow base 5 1 v zs.length (cs zs)) (hb : Bytes zs) (h1 : 1 ≤ zs.length) (h2 : zs.length ≤ 65536) (hD : ∀ k, base ≤ k → D k) : By D w v zs := by
  rcases h.2 with ⟨_, h0⟩ | ⟨g, cap, cur, rfl, hg, hh, hcap, hcm, hsz, htake⟩
  · omega
  · refine ⟨g, 0, cap, cur, rfl, hD g hg, hh, hcap, by simpa [maxLen] using hcm, hb, h2, fun j hj => ?_⟩
    rw [Nat.mul_one] at htake
    have e := congrArg (fun t => t[j]?) htake
    simp only [List.getElem?_take, if_pos hj, cs, List.getElem?_map, List.getElem?_eq_getElem hj] at e
    rw [List.getD_eq_getElem?_getD, List.getElem?_eq_getElem hj, Nat.zero_add]
    simpa using e
theorem By.drop {D : Nat → Prop} {w : World} {g off cap : Nat} {zs : List Int} (h : By D w (.slice (some ⟨g, off, none⟩) zs.length cap) zs) (k : Nat) (hk : k ≤ zs.length) : By D w (.slice (some ⟨g, off + k, none⟩) (zs.length - k) (cap - k)) (zs.drop k) := by
  obtain ⟨g', off', cap', cur, e, hd, hh, hl, hc, hb, hm, hz⟩ := h
  cases e
  refine ⟨g, off + k, cap - k, cur, by rw [List.length_drop], hd, hh, by rw [List.length_drop]; omega, by omega, hb.drop k, by rw [List.length_drop]; omega, fun j hj => ?_⟩
  rw [List.length_drop] at hj
  rw [Nat.add_assoc, hz (k + j) (by omega), List.getD_eq_getElem?_getD, List.getD_eq_getElem?_getD, List.getElem?_drop]
theorem Row.take {w : World} {b off len : Nat} {zs : List Int} (h : Row w (some ⟨b, off, none⟩) len zs) (k : Nat) (hk : k ≤ len) : Row w (some ⟨b, off, none⟩) k (zs.take k) := by
  obtain ⟨h1, h2, h3, h4⟩ := h
  refine ⟨by rw [List.length_take]; omega, h2.take k, by omega, ?_⟩
  rcases h4 with h0 | ⟨b', off', e, hc⟩
  · exact .inl (by omega)
  · refine .inr ⟨b', off', e, fun j hj => ?_⟩
    rw [hc j (by omega), List.getD_eq_getElem?_getD, List.getD_eq_getElem?_getD, List.getElem?_take, if_pos hj]

-- rows of wide elements
section
variable {X : Type} {f : X → List Value} {k : Nat}
theorem flat_len (hf : ∀ x, (f x).length = k) (L : List X) : (L.flatMap f).length = L.length * k := by
  induction L with
  | nil => simp
  | cons x L ih => rw [List.flatMap_cons, List.length_append, ih, hf, List.length_cons, Nat.add_mul]; omega
theorem flat_at (hf : ∀ x, (f x).length = k) : ∀ (L : List X) {j : Nat} {x : X}, L[j]? = some x → ∀ {c : Nat}, c < k → (L.flatMap f)[j * k + c]? = (f x)[c]?
  | [], j, x, h, c, hc => by simp at h
  | y :: L, 0, x, h, c, hc => by
    simp at h
    subst h
    rw [List.flatMap_cons, List.getElem?_append_left (by rw [hf]; omega)]
    simp
  | y :: L, j + 1, x, h, c, hc => by
    rw [List.flatMap_cons, List.getElem?_append_right (by rw [hf, Nat.add_mul]; omega), hf, show (j + 1) * k + c - k = j * k + c by rw [Nat.add_mul]; omega]
    exact flat_at hf L (by simpa using h) hc
theorem flat_set (hf : ∀ x, (f x).length = k) : ∀ (L : List X) {j : Nat} {x y : X}, L[j]? = some x → ∀ {c : Nat} {u : Value}, c < k → (f x).set c u = f y → (L.flatMap f).set (j * k + c) u = (L.set j y).flatMap f
  | [], j, x, y, h, c, u, hc, hs => by simp at h
  | z :: L, 0, x, y, h, c, u, hc, hs => by
    simp at h
    subst h
    rw [List.flatMap_cons, List.set_append_left _ _ (by rw [hf]; omega), List.set_cons_zero, List.flatMap_cons]
    simp [hs]
  | z :: L, j + 1, x, y, h, c, u, hc, hs => by
    rw [List.flatMap_cons, List.set_append_right _ _ (by rw [hf, Nat.add_mul]; omega), hf, show (j + 1) * k + c - k = j * k + c by rw [Nat.add_mul]; omega, List.set_cons_succ, List.flatMap_cons]
    rw [flat_set hf L (by simpa using h) hc hs]
end
theorem has_cells (b : Nat) (t : TypeId) : ∀ (vs : List Value) (o : Nat) (w : World) (cur : Array Value), Has w b cur t → o + vs.length ≤ cur.size →
    ∃ cur', Has (w.setCells b o vs) b cur' t ∧ cur'.size = cur.size ∧ (∀ j, j < o ∨ o + vs.length ≤ j → cur'[j]? = cur[j]?) ∧ ∀ j, j < vs.length → cur'[o + j]? = vs[j]?
  | [], o, w, cur, h, hl => ⟨cur, h, rfl, fun _ _ => rfl, fun j hj => absurd hj (Nat.not_lt_zero _)⟩
  | v :: r, o, w, cur, h, hl => by
    rw [List.length_cons] at hl
    obtain ⟨cur', h1, h2, h3, h4⟩ := has_cells b t r (o + 1) (w.setCell ⟨b, o, none⟩ v) _ (h.set o v) (by simp; omega)
    refine ⟨cur', h1, by rw [h2]; simp, fun j hj => ?_, fun j hj => ?_⟩
    · rw [List.length_cons] at hj
      rw [h3 j (by omega), Array.getElem?_setIfInBounds, if_neg (by omega)]
    · cases j with
      | zero => rw [Nat.add_zero, h3 o (by omega), Array.getElem?_setIfInBounds, if_pos rfl, if_pos (by omega)]; rfl
      | succ j =>
        rw [List.length_cons] at hj
        have := h4 j (by omega)
        rw [show o + (j + 1) = o + 1 + j by omega, this]
        rfl
theorem mod_cells (F : Nat → Prop) (b : Nat) (hb : F b) : ∀ (vs : List Value) (o : Nat) (w : World), Mod F w (w.setCells b o vs)
  | [], o, w => Mod.refl _ _
  | v :: r, o, w => (Mod.setCell w (p := ⟨b, o, none⟩) hb v).trans (mod_cells F b hb r (o + 1) _) (fun x hx => .inl hx)


/-- a chunk and where its bytes lie -/
structure CV where
  x : Ch
  v : Value
def cc (p : CV) : List Value := [.int .u32 p.x.ts, .int .i64 p.x.pa, .int .i64 p.x.ti, .int .i64 p.x.se, .int .i64 p.x.mi, .bool p.x.qu, .int .i64 p.x.st, .int .u16 p.x.p.sm, .int .u16 p.x.p.sn, .int .u32 p.x.p.pr, .bool p.x.p.un, p.v, .bool p.x.p.bg, .bool p.x.p.en]
def ccs (L : List CV) : List Value := L.flatMap cc
theorem cc_len (p : CV) : (cc p).length = 14 := rfl
theorem ccs_len (L : List CV) : (ccs L).length = L.length * 14 := flat_len cc_len L
theorem ccs_append (L : List CV) (p : CV) : ccs (L ++ [p]) = ccs L ++ cc p := by unfold ccs; rw [List.flatMap_append]; simp
/-- chunks in a row, from some place of their block on -/
def Rw (E : TypeId) (w : World) (v : Value) (ps : List CV) : Prop :=
  (v = .slice none 0 0 ∧ ps = []) ∨ ∃ g oo cap cur, v = .slice (some ⟨g, oo, none⟩) ps.length cap ∧ Has w g cur E ∧ ps.length ≤ cap ∧ oo + cap * 14 = cur.size ∧ cap ≤ 9223372036854775807 ∧ ∀ j u, (ccs ps)[j]? = some u → cur[oo + j]? = some u
section
variable {E : TypeId} {w w' : World} {v : Value} {ps : List CV} {F : Nat → Prop}
theorem Rw.slice (h : Rw E w v ps) : ∃ a cap, v = .slice a ps.length cap ∧ cap ≤ 9223372036854775807 ∧ ps.length ≤ cap := by
  rcases h with ⟨rfl, rfl⟩ | ⟨g, oo, cap, cur, rfl, _, h1, _, h2, _⟩
  · exact ⟨_, _, rfl, by omega, by simp⟩
  · exact ⟨_, _, rfl, h2, h1⟩
theorem Rw.obj (h : Rw E w v ps) {k : Nat} (hk : v.ownBlock = some k) : ∃ cur, Has w k cur E := by
  rcases h with ⟨rfl, _⟩ | ⟨g, oo, cap, cur, rfl, hh, _⟩
  · cases hk
  · cases hk; exact ⟨cur, hh⟩
theorem Rw.stay (h : Rw E w v ps) (hm : Mod F w w') (hF : ∀ k, v.ownBlock = some k → ¬ F k) : Rw E w' v ps := by
  rcases h with h | ⟨g, oo, cap, cur, rfl, hh, r⟩
  · exact .inl h
  · exact .inr ⟨g, oo, cap, cur, rfl, hm.has hh (hF g rfl), r⟩
theorem Rw.later (h : Rw E w v ps) (hB : Below w.heap.size w w') : Rw E w' v ps :=
  h.stay (F := fun k => w.heap.size ≤ k) (Mod.of_below hB) (fun k hk hf => by obtain ⟨cur, hh⟩ := h.obj hk; have := hh.lt; omega)
theorem Rw.nil : Rw E w (.slice none 0 0) [] := .inl ⟨rfl, rfl⟩
theorem Rw.open (h : Rw E w v ps) (hn : 0 < ps.length) : ∃ g oo cap, v = .slice (some ⟨g, oo, none⟩) ps.length cap ∧ g < w.heap.size ∧ ps.length ≤ cap ∧ cap ≤ 9223372036854775807 := by
  rcases h with ⟨_, rfl⟩ | ⟨g, oo, cap, cur, rfl, hh, h1, _, h2, _⟩
  · simp at hn
  · exact ⟨g, oo, cap, rfl, hh.lt, h1, h2⟩
end
/-- the place of a chunk in its row -/
def Pl (v : Value) (i g o : Nat) : Prop := ∃ oo l c, v = .slice (some ⟨g, oo, none⟩) l c ∧ o = oo + i * 14
section
variable {E : TypeId} {w w' : World} {v : Value} {ps : List CV} {F : Nat → Prop} {i g o : Nat} {p q : CV}
theorem Rw.place (h : Rw E w v ps) (hi : i < ps.length) : ∃ g o, Pl v i g o := by
  obtain ⟨g, oo, cap, e, _⟩ := h.open (by omega)
  exact ⟨g, oo + i * 14, oo, _, _, e, rfl⟩
theorem Pl.own (h : Pl v i g o) : v.ownBlock = some g := by
  obtain ⟨oo, l, c, rfl, _⟩ := h
  rfl
/-- a chunk's cells at a place -/
def Cells (w : World) (g o : Nat) (p : CV) : Prop := ∀ c u, (cc p)[c]? = some u → w.cell? ⟨g, o + c, none⟩ = some u
theorem Rw.cell (h : Rw E w v ps) (hp : Pl v i g o) (hi : ps[i]? = some p) : Cells w g o p ∧ g < w.heap.size ∧ ∀ c, w.frozen? ⟨g, c, none⟩ = false := by
  obtain ⟨oo, l, c, e, ho⟩ := hp
  rcases h with ⟨rfl, rfl⟩ | ⟨g', oo', cap, cur, rfl, hh, h1, h2, h3, hc⟩
  · cases e
  · cases e
    refine ⟨fun c u hu => ?_, hh.lt, fun c => hh.frozen c⟩
    have hcl := (List.getElem?_eq_some_iff.1 hu).1
    rw [cc_len] at hcl
    have := flat_at cc_len ps hi hcl
    rw [hu] at this
    have := hc _ _ this
    rw [ho, Nat.add_assoc]
    exact hh.cell _ this
theorem Cells.all {ts pa ti se mi st sm sn pr : Int} {qu un bg en : Bool} {d : List Int} (h : Cells w g o ⟨⟨ts, pa, ti, se, mi, qu, st, ⟨sm, sn, pr, un, d, bg, en⟩⟩, v⟩) :
    w.cell? ⟨g, o, none⟩ = some (.int .u32 ts) ∧ w.cell? ⟨g, o + 1, none⟩ = some (.int .i64 pa) ∧ w.cell? ⟨g, o + 2, none⟩ = some (.int .i64 ti) ∧ w.cell? ⟨g, o + 3, none⟩ = some (.int .i64 se) ∧ w.cell? ⟨g, o + 4, none⟩ = some (.int .i64 mi) ∧ w.cell? ⟨g, o + 5, none⟩ = some (.bool qu) ∧ w.cell? ⟨g, o + 6, none⟩ = some (.int .i64 st) ∧
    w.cell? ⟨g, o + 7, none⟩ = some (.int .u16 sm) ∧ w.cell? ⟨g, o + 8, none⟩ = some (.int .u16 sn) ∧ w.cell? ⟨g, o + 9, none⟩ = some (.int .u32 pr) ∧ w.cell? ⟨g, o + 10, none⟩ = some (.bool un) ∧ w.cell? ⟨g, o + 11, none⟩ = some v ∧ w.cell? ⟨g, o + 12, none⟩ = some (.bool bg) ∧ w.cell? ⟨g, o + 13, none⟩ = some (.bool en) :=
  ⟨h 0 _ rfl, h 1 _ rfl, h 2 _ rfl, h 3 _ rfl, h 4 _ rfl, h 5 _ rfl, h 6 _ rfl, h 7 _ rfl, h 8 _ rfl, h 9 _ rfl, h 10 _ rfl, h 11 _ rfl, h 12 _ rfl, h 13 _ rfl⟩
/-- one cell of one chunk is set -/
theorem Rw.set (h : Rw E w v ps) (hp : Pl v i g o) (hi : ps[i]? = some p) {c : Nat} {u : Value} (hc : c < 14) (hs : (cc p).set c u = cc q) : Rw E (w.setCell ⟨g, o + c, none⟩ u) v (ps.set i q) := by
  obtain ⟨oo, l, cp, e, ho⟩ := hp
  rcases h with ⟨rfl, rfl⟩ | ⟨g', oo', cap, cur, rfl, hh, h1, h2, h3, hcl⟩
  · cases e
  · cases e
    refine .inr ⟨g, oo, _, _, by rw [List.length_set], hh.set _ _, by rw [List.length_set]; exact h1, by rw [Array.size_setIfInBounds]; exact h2, h3, fun j z hz => ?_⟩
    have e2 := flat_set cc_len ps hi hc hs
    unfold ccs at hz hcl
    rw [← e2, List.getElem?_set] at hz
    rw [Array.getElem?_setIfInBounds, ho, show oo + i * 14 + c = oo + (i * 14 + c) by omega]
    by_cases e3 : i * 14 + c = j
    · subst e3
      rw [if_pos rfl] at hz
      rw [if_pos rfl]
      have hil := (List.getElem?_eq_some_iff.1 hi).1
      rw [if_pos (by rw [flat_len cc_len]; omega)] at hz
      rw [if_pos (by omega)]
      exact hz
    · rw [if_neg e3] at hz
      rw [if_neg (by omega)]
      exact hcl j z hz
theorem cc_one (h : p.v.oneCell' = true) : ∀ u ∈ cc p, u.oneCell' = true := by
  intro u hu
  simp only [cc, List.mem_cons, List.not_mem_nil, or_false] at hu
  rcases hu with rfl | rfl | rfl | rfl | rfl | rfl | rfl | rfl | rfl | rfl | rfl | rfl | rfl | rfl
  case inr.inr.inr.inr.inr.inr.inr.inr.inr.inr.inr.inl => exact h
  all_goals rfl
end
/-- a chunk is appended to a row -/
theorem app_chunk {E T : TypeId} {z : Value} {bt : Nat} (hT : Try.prog.underlying T = some (.slice E)) (hinfo : (Try.prog.info? E).map (fun i => (i.zero, i.size, i.bytes)) = some (some z, 14, bt)) (hzs : z.cells.size = 14) (hbt : bt ≤ 1024)
    {w : World} {v : Value} {ps : List CV} {p : CV} {g0 : Nat} (h : Rw E w v ps) (hl : ps.length ≤ 1073741824) (h1 : p.v.oneCell' = true) (hN : Has w g0 (cc p).toArray E) (ty : TypeId) :
    ∃ v' w2, (Builtin.append_ #[T, T] ty #[v, .slice (some ⟨g0, 0, none⟩) 1 1]).run Try.prog w = .ok v' w2 ∧ Rw E w2 v' (ps ++ [p]) ∧ Mod (fun k => v.ownBlock = some k) w w2 ∧ ∀ k, v'.ownBlock = some k → v.ownBlock = some k ∨ w.heap.size ≤ k := by
  obtain ⟨i, hi, hz, hs, hbi⟩ := info_parts hinfo
  have hnews : ∀ j u, (cc p)[j]? = some u → w.cell? ((⟨g0, 0, none⟩ : Addr).add j) = some u := fun j u hj => by
    rw [add_at, Nat.zero_add]; exact hN.cell j (by rw [← hj]; exact List.getElem?_toArray (xs := cc p) (i := j))
  rcases h with ⟨rfl, rfl⟩ | ⟨g, oo, cap, cur, rfl, hh, hcap, hsz, hcm, hcell⟩
  · refine ⟨_, _, run_append_nil (P := Try.prog) w T ty E i _ hT hi hz ⟨g0, 0, none⟩ 1 1 (cc p) (by rw [hs]; rfl) hnews (by decide) (by decide) (by rw [hbi]; omega), .inr ⟨w.heap.size, 0, _, _, rfl, heap_alloc_new w.drew _, ?_, ?_, ?_, ?_⟩, ?_, ?_⟩
    · exact grownCap_ge w 1 0 E
    · have hge := grownCap_ge w 1 0 E
      simp only [Array.size_append, List.size_toArray, size_zeroCells, cc_len, Nat.zero_add, hzs]
      show _ = 14 + (grownCap w 1 0 E - 1) * 14
      omega
    · have := grownCap_le_maxLen w 1 0 E (by decide)
      simpa [maxLen] using this
    · intro j u hj
      have hjl := (List.getElem?_eq_some_iff.1 hj).1
      simp only [ccs, List.nil_append, List.flatMap_cons, List.flatMap_nil, List.append_nil] at hj hjl
      rw [Nat.zero_add, Array.getElem?_append_left (by simpa using hjl)]
      rw [← hj]
      exact List.getElem?_toArray (xs := cc p) (i := j)
    · exact Mod.of_below ((Below.refl _ w).drew.alloc (Nat.le_refl _) _)
    · intro k hk
      cases hk
      exact .inr (Nat.le_refl _)
  · have hcells : ∀ j u, (ccs ps)[j]? = some u → w.cell? ((⟨g, oo, none⟩ : Addr).add j) = some u := fun j u hj => by
      rw [add_at]; exact hh.cell _ (hcell j u hj)
    by_cases hroom : ps.length + 1 ≤ cap
    · have hin : oo + ps.length * 14 + 14 ≤ cur.size := by omega
      have e := run_append_room_cells (P := Try.prog) w T ty E i hT hi g oo ps.length cap ⟨g0, 0, none⟩ 1 1 (cc p) (by rw [hs]; rfl) hnews (cc_one h1) hroom
        (fun j hj => by rw [cc_len] at hj; rw [hs]; rw [hh.cell (oo + ps.length * 14 + j) (Array.getElem?_eq_getElem (by omega))]; rfl)
        (fun j hj => hh.frozen _)
      rw [hs] at e
      obtain ⟨cur', k1, k2, k3, k4⟩ := has_cells g E (cc p) (oo + ps.length * 14) w cur hh hin
      refine ⟨_, _, e, .inr ⟨g, oo, cap, cur', by rw [List.length_append]; rfl, k1, by simpa using hroom, by rw [k2]; exact hsz, hcm, fun j u hj => ?_⟩, mod_cells (fun k => (Value.slice (some ⟨g, oo, none⟩) ps.length cap).ownBlock = some k) g rfl _ _ _, fun k hk => .inl hk⟩
      have hjl := (List.getElem?_eq_some_iff.1 hj).1
      rw [ccs_len, List.length_append] at hjl
      simp only [List.length_cons, List.length_nil] at hjl
      rw [ccs_append] at hj
      by_cases hlt : j < (ccs ps).length
      · rw [List.getElem?_append_left hlt] at hj
        rw [ccs_len] at hlt
        rw [k3 _ (.inl (by omega))]
        exact hcell j u hj
      · rw [List.getElem?_append_right (by omega)] at hj
        rw [ccs_len] at hlt hj
        have := k4 (j - ps.length * 14) (by rw [cc_len]; omega)
        rw [show oo + ps.length * 14 + (j - ps.length * 14) = oo + j by omega] at this
        rw [this]
        exact hj
    · have hlo : (ccs ps).length = ps.length * i.size := by rw [hs]; exact ccs_len ps
      have hb1 : (ps.length + 1) * i.bytes ≤ 140737488355328 := by
        rw [hbi]
        have : (ps.length + 1) * bt ≤ 1073741825 * 1024 := Nat.mul_le_mul (by omega) hbt
        omega
      have e := run_append_grow (P := Try.prog) w T ty E i _ hT hi hz ⟨g, oo, none⟩ ps.length cap (ccs ps) hlo hcells ⟨g0, 0, none⟩ 1 1 (cc p) (by rw [hs]; rfl) hnews (by omega) (by omega) (growslice_fits (by omega) hb1)
      have hge := grownCap_ge w (ps.length + 1) cap E
      refine ⟨_, _, e, .inr ⟨w.heap.size, 0, _, _, by rw [List.length_append]; rfl, heap_alloc_new w.drew _, ?_, ?_, ?_, ?_⟩, Mod.of_below ((Below.refl _ w).drew.alloc (Nat.le_refl _) _), ?_⟩
      · rw [List.length_append]; exact hge
      · simp only [Array.size_append, List.size_toArray, size_zeroCells, cc_len, ccs_len, Nat.zero_add, hzs]
        show _ = ps.length * 14 + 14 + (grownCap w (ps.length + 1) cap E - (ps.length + 1)) * 14
        omega
      · have := grownCap_le_maxLen w (ps.length + 1) cap E (by unfold maxLen; omega)
        simpa [maxLen] using this
      · intro j u hj
        rw [ccs_append] at hj
        have hjl := (List.getElem?_eq_some_iff.1 hj).1
        rw [Nat.zero_add, Array.getElem?_append_left (by simpa using hjl), ← hj]
        have := List.getElem?_toArray (xs := ccs ps ++ cc p) (i := j)
        rw [← this]
        simp
      · intro k hk
        cases hk
        exact .inr (Nat.le_refl _)
theorem has_type {w : World} {k : Nat} {cs cs' : Array Value} {t t' : TypeId} (h : Has w k cs t) (h' : Has w k cs' t') : t = t' := Classical.byContradiction fun e => h.ne h' e rfl

/-- the code's box in memory, its parts named -/
structure No (D : Nat → Prop) (w : World) (t f : Nat) (rv : Value) (P : List CV) (nx : Int) (n : Nat) (L : List Ch) (fs : Nat → Int) (m : Int) : Prop where
  q : Has w t #[rv, .int .u32 nx, .slice (some ⟨f, 0, none⟩) n n, .int .i64 m] 80
  fl : ∃ cs, Has w f cs 3 ∧ ∀ i, i < n → cs[i]? = some (.int .i64 (fs i))
  rw_ : Rw 108 w rv P
  pr : P.map (·.x) = L
  by_ : ∀ p ∈ P, By D w p.v p.x.p.d
/-- its blocks -/
def FC (t f : Nat) (rv : Value) (k : Nat) : Prop := k = t ∨ k = f ∨ rv.ownBlock = some k
section
variable {D : Nat → Prop} {w w' : World} {t f : Nat} {rv : Value} {P : List CV} {nx : Int} {n : Nat} {L : List Ch} {fs : Nat → Int} {m : Int} {i g o : Nat} {x y : Ch}
theorem No.len (h : No D w t f rv P nx n L fs m) : P.length = L.length := by rw [← h.pr]; simp
theorem No.stay {F : Nat → Prop} (h : No D w t f rv P nx n L fs m) (hm : Mod F w w') (h1 : ∀ k, FC t f rv k → ¬ F k) (h2 : ∀ k cur, D k → Has w k cur 5 → ¬ F k) : No D w' t f rv P nx n L fs m := by
  obtain ⟨cs, hc, hl⟩ := h.fl
  exact ⟨hm.has h.q (h1 t (.inl rfl)), ⟨cs, hm.has hc (h1 f (.inr (.inl rfl))), hl⟩, h.rw_.stay hm (fun k hk => h1 k (.inr (.inr hk))), h.pr, fun p hp => (h.by_ p hp).stay hm h2⟩
theorem No.type (h : No D w t f rv P nx n L fs m) {k : Nat} (hk : FC t f rv k) : ∃ cs ty, Has w k cs ty ∧ (ty = 80 ∨ ty = 3 ∨ ty = 108) := by
  rcases hk with rfl | rfl | hk
  · exact ⟨_, _, h.q, .inl rfl⟩
  · obtain ⟨cs, hc, _⟩ := h.fl
    exact ⟨_, _, hc, .inr (.inl rfl)⟩
  · obtain ⟨cur, hc⟩ := h.rw_.obj hk
    exact ⟨_, _, hc, .inr (.inr rfl)⟩
theorem No.lt (h : No D w t f rv P nx n L fs m) {k : Nat} (hk : FC t f rv k) : k < w.heap.size := by
  obtain ⟨cs, ty, hh, _⟩ := h.type hk
  exact hh.lt
theorem No.later (h : No D w t f rv P nx n L fs m) (hB : Below w.heap.size w w') : No D w' t f rv P nx n L fs m :=
  h.stay (F := fun k => w.heap.size ≤ k) (Mod.of_below hB) (fun k hk hf => by have := h.lt hk; omega) (fun k cur _ hh hf => by have := hh.lt; omega)
theorem No.tf (h : No D w t f rv P nx n L fs m) : t ≠ f := by
  obtain ⟨cs, hc, _⟩ := h.fl
  exact h.q.ne hc (by decide)
theorem No.nt (h : No D w t f rv P nx n L fs m) : ∀ k, rv.ownBlock = some k → k ≠ t := fun k hk e => by
  obtain ⟨cur, hu⟩ := h.rw_.obj hk
  exact hu.ne h.q (by decide) e
theorem No.nf (h : No D w t f rv P nx n L fs m) : ∀ k, rv.ownBlock = some k → k ≠ f := fun k hk e => by
  obtain ⟨cur, hu⟩ := h.rw_.obj hk
  obtain ⟨cs, hc, _⟩ := h.fl
  exact hu.ne hc (by decide) e
theorem No.bytes (h : No D w t f rv P nx n L fs m) {k : Nat} {cur : Array Value} (hh : Has w k cur 5) : ¬ FC t f rv k := fun hk => by
  obtain ⟨cs, ty, h1, h2⟩ := h.type hk
  have := has_type hh h1
  rcases h2 with rfl | rfl | rfl <;> cases this
theorem No.at (h : No D w t f rv P nx n L fs m) (hi : L[i]? = some x) : ∃ p, P[i]? = some p ∧ p.x = x := by
  rw [← h.pr, List.getElem?_map] at hi
  cases hp : P[i]? with
  | none => rw [hp] at hi; cases hi
  | some p => rw [hp] at hi; cases hi; exact ⟨p, rfl, rfl⟩
/-- the chunk at a place, its cells -/
theorem No.chunk (h : No D w t f rv P nx n L fs m) (hp : Pl rv i g o) (hi : L[i]? = some x) : ∃ v, Cells w g o ⟨x, v⟩ ∧ By D w v x.p.d ∧ g < w.heap.size ∧ (∀ c, w.frozen? ⟨g, c, none⟩ = false) := by
  obtain ⟨p, h1, rfl⟩ := h.at hi
  obtain ⟨k1, k2, k3⟩ := h.rw_.cell hp h1
  exact ⟨p.v, k1, h.by_ p (List.mem_of_getElem? h1), k2, k3⟩
/-- one cell of a chunk is set -/
theorem No.setC (h : No D w t f rv P nx n L fs m) (hp : Pl rv i g o) (hi : L[i]? = some x) {c : Nat} {u : Value} (hc : c < 14) (hs : ∀ v, (cc ⟨x, v⟩).set c u = cc ⟨y, v⟩) (hd : y.p.d = x.p.d) : ∃ P', No D (w.setCell ⟨g, o + c, none⟩ u) t f rv P' nx n (L.set i y) fs m := by
  obtain ⟨p, h1, rfl⟩ := h.at hi
  have ho := hp.own
  have hm : Mod (fun k => k = g) w (w.setCell ⟨g, o + c, none⟩ u) := Mod.setCell (F := fun k => k = g) w (p := ⟨g, o + c, none⟩) rfl u
  obtain ⟨cs, hcs, hl⟩ := h.fl
  refine ⟨P.set i ⟨y, p.v⟩, hm.has h.q (fun e => h.nt g ho e.symm), ⟨cs, hm.has hcs (fun e => h.nf g ho e.symm), hl⟩, h.rw_.set hp h1 hc (hs p.v), ?_, fun q hq => ?_⟩
  · rw [List.map_set, h.pr]
  · have hst : ∀ q ∈ P, By D (w.setCell ⟨g, o + c, none⟩ u) q.v q.x.p.d := fun q hq => (h.by_ q hq).stay hm (fun k cur _ hh e => by
      subst e
      exact h.bytes hh (.inr (.inr ho)))
    rcases List.mem_or_eq_of_mem_set hq with hq | rfl
    · exact hst q hq
    · show By D _ p.v y.p.d
      rw [hd]
      exact hst p (List.mem_of_getElem? h1)
/-- a path's number is set -/
theorem No.setF (h : No D w t f rv P nx n L fs m) {j : Nat} (hj : j < n) (z : Int) : No D (w.setCell ⟨f, j, none⟩ (.int .i64 z)) t f rv P nx n L (fun k => if k = j then z else fs k) m := by
  have hm : Mod (fun k => k = f) w (w.setCell ⟨f, j, none⟩ (.int .i64 z)) := Mod.setCell (F := fun k => k = f) w (p := ⟨f, j, none⟩) rfl _
  obtain ⟨cs, hcs, hl⟩ := h.fl
  refine ⟨hm.has h.q (fun e => h.tf e), ⟨_, hcs.set j _, fun i hi => ?_⟩, h.rw_.stay hm (fun k hk e => h.nf k hk e), h.pr, fun q hq => (h.by_ q hq).stay hm (fun k cur _ hh e => by subst e; exact hh.ne hcs (by decide) rfl)⟩
  rw [Array.getElem?_setIfInBounds]
  have hjs := (Array.getElem?_eq_some_iff.1 (hl j hj)).1
  by_cases e : j = i
  · subst e; simp [hjs]
  · rw [if_neg e, if_neg (fun h => e h.symm)]; exact hl i hi
/-- the box's own numbers are set -/
theorem No.setQ (h : No D w t f rv P nx n L fs m) {j : Nat} {u : Value} {nx' m' : Int} (hq : (#[rv, .int .u32 nx, .slice (some ⟨f, 0, none⟩) n n, .int .i64 m] : Array Value).setIfInBounds j u = #[rv, .int .u32 nx', .slice (some ⟨f, 0, none⟩) n n, .int .i64 m']) :
    No D (w.setCell ⟨t, j, none⟩ u) t f rv P nx' n L fs m' := by
  have hm : Mod (fun k => k = t) w (w.setCell ⟨t, j, none⟩ u) := Mod.setCell (F := fun k => k = t) w (p := ⟨t, j, none⟩) rfl u
  obtain ⟨cs, hcs, hl⟩ := h.fl
  refine ⟨?_, ⟨cs, hm.has hcs (fun e => h.tf e.symm), hl⟩, h.rw_.stay hm (fun k hk e => h.nt k hk e), h.pr, fun q hq => (h.by_ q hq).stay hm (fun k cur _ hh e => by subst e; exact hh.ne h.q (by decide) rfl)⟩
  have := h.q.set j u
  rw [hq] at this
  exact this
/-- the row is another one -/
theorem No.turn {rv' : Value} {P' : List CV} (h : No D w t f rv P nx n L fs m) (hm : Mod (fun k => k = t ∨ rv.ownBlock = some k) w w') (hq : Has w' t #[rv', .int .u32 nx, .slice (some ⟨f, 0, none⟩) n n, .int .i64 m] 80) (hr : Rw 108 w' rv' P') (hb : ∀ p ∈ P', By D w' p.v p.x.p.d) : No D w' t f rv' P' nx n (P'.map (·.x)) fs m := by
  obtain ⟨cs, hcs, hl⟩ := h.fl
  exact ⟨hq, ⟨cs, hm.has hcs (fun e => e.elim (fun e => h.tf e.symm) (fun e => h.nf f e rfl)), hl⟩, hr, rfl, hb⟩
theorem No.congr {fs' : Nat → Int} {m' : Int} {L' : List Ch} (h : No D w t f rv P nx n L fs m) (hf : ∀ i, i < n → fs i = fs' i) (hm : m = m') (hL : L = L') : No D w t f rv P nx n L' fs' m' := by
  subst hm hL
  obtain ⟨cs, hcs, hl⟩ := h.fl
  exact ⟨h.q, ⟨cs, hcs, fun i hi => by rw [hl i hi, hf i hi]⟩, h.rw_, h.pr, h.by_⟩
end
/-- a box in memory: t its place, F its blocks -/
def Cd (D : Nat → Prop) (w : World) (t : Nat) (S : St) (F : Nat → Prop) : Prop := ∃ f rv P, No D w t f rv P (nextS S) S.n S.L (fun i => fl S.L i) (mk S.L) ∧ ∀ k, F k ↔ FC t f rv k
section
variable {D F G : Nat → Prop} {w w' : World} {t : Nat} {S : St}
theorem Cd.stay (h : Cd D w t S F) (hm : Mod G w w') (h1 : ∀ k, F k → ¬ G k) (h2 : ∀ k cur, D k → Has w k cur 5 → ¬ G k) : Cd D w' t S F := by
  obtain ⟨f, rv, P, hN, hF⟩ := h
  exact ⟨f, rv, P, hN.stay hm (fun k hk => h1 k ((hF k).2 hk)) h2, hF⟩
theorem Cd.later (h : Cd D w t S F) (hB : Below w.heap.size w w') : Cd D w' t S F := by
  obtain ⟨f, rv, P, hN, hF⟩ := h
  exact ⟨f, rv, P, hN.later hB, hF⟩
theorem Cd.lt (h : Cd D w t S F) {k : Nat} (hk : F k) : k < w.heap.size := by
  obtain ⟨f, rv, P, hN, hF⟩ := h
  exact hN.lt ((hF k).1 hk)
theorem Cd.type (h : Cd D w t S F) {k : Nat} (hk : F k) : ∃ cs ty, Has w k cs ty ∧ (ty = 80 ∨ ty = 3 ∨ ty = 108) := by
  obtain ⟨f, rv, P, hN, hF⟩ := h
  exact hN.type ((hF k).1 hk)
end
/-- chunks that are not too many, not too long, on paths that there are -/
def Lk (n : Nat) (L : List Ch) : Prop := L.length ≤ 1001 ∧ ∀ x ∈ L, x.p.d.length ≤ 65536 ∧ 0 ≤ x.pa ∧ x.pa < n
theorem Lk.set {n : Nat} {L : List Ch} {x y : Ch} {i : Nat} (h : Lk n L) (hd : y.p.d.length ≤ 65536) (h0 : 0 ≤ y.pa) (h1 : y.pa < n) : Lk n (L.set i y) := by
  refine ⟨by rw [List.length_set]; exact h.1, fun z hz => ?_⟩
  rcases List.mem_or_eq_of_mem_set hz with hz | rfl
  · exact h.2 z hz
  · exact ⟨hd, h0, h1⟩
theorem Lk.fl {n : Nat} {L : List Ch} (h : Lk n L) (p : Int) : 0 ≤ fl L p ∧ fl L p ≤ 65601536 := by
  have := sm_bound (f := flF p) (B := 65536) L (fun x hx => ⟨flF_nn p x, by have := (h.2 x hx).1; have := flF_le p x; unfold sz at this; omega⟩)
  have := h.1
  unfold Ob.fl
  omega
theorem Lk.mk {n : Nat} {L : List Ch} (h : Lk n L) : 0 ≤ mk L ∧ mk L ≤ 65601536 := by
  have := sm_bound (f := mkF) (B := 65536) L (fun x hx => ⟨mkF_nn x, by have := (h.2 x hx).1; have := mkF_le x; unfold sz at this; omega⟩)
  have := h.1
  unfold Ob.mk
  omega
theorem Good.lk {K : Nat} {S : St} (h : Good K S) : Lk S.n S.L := ⟨by have := h.len; have := h.k; omega, fun x hx => ⟨(h.ch x hx).d2, (h.ch x hx).pa0, (h.ch x hx).pan⟩⟩
end Go.Proofs.Ytjceeckcfjjkkaa.Ob
