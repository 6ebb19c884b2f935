/-
  The reader of package chunk: what it leaves alone; lists that it makes.
  Conditions: the numbers lie within their kinds, the cells hold them; the bytes lie in the memory of an older world, which the reader does not touch.
-/
import Derived.Test.YtifdkpifambhaaaChM
namespace Go.Proofs.Ytifdkpifambhaaa.Chu
open Go.ChangeShapes Go.WideShapes Go.ChangeAt Go.RowKit
open Par (hidden Bytes Row Prm Prms cell_lt Cap cells_new cutA thrown form_of)
set_option linter.unusedVariables false

/-- but for the blocks B and C all is as it was -/
def Tch (B C : Nat) (w w' : World) : Prop := w'.os = w.os ∧ w'.tape = w.tape ∧ w'.output = w.output ∧ w.heap.size ≤ w'.heap.size ∧ ∀ k, k < w.heap.size → k ≠ B → k ≠ C → w'.heap[k]? = w.heap[k]?
theorem Tch.refl (B C : Nat) (w : World) : Tch B C w w := ⟨rfl, rfl, rfl, Nat.le_refl _, fun _ _ _ _ => rfl⟩
theorem Tch.trans {B C : Nat} {w w1 w2 : World} (h : Tch B C w w1) (h2 : Tch B C w1 w2) : Tch B C w w2 :=
  ⟨h2.1.trans h.1, h2.2.1.trans h.2.1, h2.2.2.1.trans h.2.2.1, Nat.le_trans h.2.2.2.1 h2.2.2.2.1, fun k hk hB hC => (h2.2.2.2.2 k (Nat.lt_of_lt_of_le hk h.2.2.2.1) hB hC).trans (h.2.2.2.2 k hk hB hC)⟩
theorem Tch.ofB {B C : Nat} {w w' : World} (h : w.grownBy w' (some B)) : Tch B C w w' := by
  obtain ⟨a1, a2, a3, a4, a5⟩ := h
  exact ⟨a1, a2, a3, a4, fun k hk hB _ => a5 k hk (by simpa using hB)⟩
theorem Tch.ofC {B C : Nat} {w w' : World} (h : w.grownBy w' (some C)) : Tch B C w w' := by
  obtain ⟨a1, a2, a3, a4, a5⟩ := h
  exact ⟨a1, a2, a3, a4, fun k hk _ hC => a5 k hk (by simpa using hC)⟩
theorem Tch.below {B C n : Nat} {w0 w w' : World} (hb : Below n w0 w) (hn : n ≤ w.heap.size) (hB : n ≤ B) (hC : n ≤ C) (h : Tch B C w w') : Below n w0 w' := by
  have h1 : Below n w w' := ⟨h.1, h.2.1, h.2.2.1, h.2.2.2.1, fun k hk => h.2.2.2.2 k (Nat.lt_of_lt_of_le hk hn) (by omega) (by omega)⟩
  exact hb.trans h1
theorem Tch.cell {B C : Nat} {w w' : World} (h : Tch B C w w') {b o : Nat} {u : Value} (hc : w.cell? ⟨b, o, none⟩ = some u) (hB : b ≠ B) (hC : b ≠ C) : w'.cell? ⟨b, o, none⟩ = some u := by
  have e := h.2.2.2.2 b (cell_lt hc) hB hC
  simp only [World.cell?, e] at *
  exact hc
theorem Lies.tch {B C n : Nat} {w w' : World} (hB : B < n) (hC : C < n) (h : Tch B C w w') {a : Option Addr} {xs : List Value} (hl : Lies n w a xs) : Lies n w' a xs := by
  refine hl.imp id ?_
  rintro ⟨b, off, rfl, hbb, hc⟩
  exact ⟨b, off, rfl, hbb, fun j u hj => h.cell (hc j u hj) (by omega) (by omega)⟩
theorem row_tch {B C n : Nat} {w w' : World} (hB : B < n) (hC : C < n) (h : Tch B C w w') {a : Option Addr} {len : Nat} {zs : List Int} (hr : Row n w a len zs) : Row n w' a len zs := by
  obtain ⟨h1, h2, h3, h4⟩ := hr
  refine ⟨h1, h2, h3, h4.imp id ?_⟩
  rintro ⟨b, off, rfl, hbb, hc⟩
  exact ⟨b, off, rfl, hbb, fun j hj => h.cell (hc j hj) (by omega) (by omega)⟩
theorem prms_tch {B C n : Nat} {w w' : World} (hB : B < n) (hC : C < n) (h : Tch B C w w') {a : Option Addr} {len : Nat} {ps : List Prm} (hr : Prms n w a len ps) : Prms n w' a len ps := by
  obtain ⟨h1, h2, h3, h4⟩ := hr
  refine ⟨h1, h2, fun p hp => ⟨(h3 p hp).1, row_tch hB hC h (h3 p hp).2.1, (h3 p hp).2.2⟩, h4.imp id ?_⟩
  rintro ⟨b, off, rfl, hbb, hc⟩
  exact ⟨b, off, rfl, hbb, fun j p hj => ⟨h.cell (hc j p hj).1 (by omega) (by omega), h.cell (hc j p hj).2 (by omega) (by omega)⟩⟩
theorem Gaps.tch {B C n : Nat} {w w' : World} (hB : B < n) (hC : C < n) (h : Tch B C w w') {a : Option Addr} {len : Nat} {gs : List (Int × Int)} (hr : Gaps n w a len gs) : Gaps n w' a len gs := ⟨hr.1, hr.2.1, hr.2.2.1, hr.2.2.2.tch hB hC h⟩
theorem Fours.tch {B C n : Nat} {w w' : World} (hB : B < n) (hC : C < n) (h : Tch B C w w') {a : Option Addr} {len : Nat} {ds : List Int} (hr : Fours n w a len ds) : Fours n w' a len ds := ⟨hr.1, hr.2.1, hr.2.2.1, hr.2.2.2.tch hB hC h⟩
theorem Lsts.tch {B C n : Nat} {w w' : World} (hB : B < n) (hC : C < n) (h : Tch B C w w') {c : Ck} (hl : Lsts n w c) : Lsts n w' c :=
  ⟨hl.1.tch hB hC h, hl.2.1.tch hB hC h, hl.2.2.1.tch hB hC h, row_tch hB hC h hl.2.2.2.1, hl.2.2.2.2.1, prms_tch hB hC h hl.2.2.2.2.2⟩
/-- a row of the call's own -/
theorem lies_own {w : World} {base e s n : Nat} {v : Value} {xs : List Value} (h : w.ownsRow base e s v n xs) : ∃ a cap, v = .slice a n cap ∧ Lies base w a xs ∧ n ≤ cap ∧ (a = none → n = 0 ∧ cap = 0) := by
  obtain ⟨hl, h⟩ := h
  rcases h with ⟨rfl, rfl⟩ | ⟨g, cap, cur, rfl, hg, hh, hcap, hcm, hsz, htake⟩
  · rw [Nat.zero_mul] at hl
    exact ⟨none, 0, rfl, .inl (nil_of_len hl), Nat.le_refl _, fun _ => ⟨rfl, rfl⟩⟩
  · refine ⟨_, cap, rfl, .inr ⟨g, 0, rfl, hg, fun j u hj => ?_⟩, hcap, fun h => by cases h⟩
    have hjl : j < xs.length := (List.getElem?_eq_some_iff.1 hj).1
    rw [← htake, List.getElem?_take, if_pos (by rw [← hl]; exact hjl)] at hj
    simp only [World.cell?, hh, Nat.zero_add]
    simpa using hj
theorem gapsAt_in {v : List Int} (hv : Bytes v) (p n : Nat) : ∀ g ∈ gapsAt v p n, (0 ≤ g.1 ∧ g.1 < 65536) ∧ (0 ≤ g.2 ∧ g.2 < 65536) := by
  intro g hg
  obtain ⟨i, _, rfl⟩ := List.mem_map.1 hg
  exact ⟨n2_bound hv _, n2_bound hv _⟩
theorem foursAt_in {v : List Int} (hv : Bytes v) (p n : Nat) : ∀ d ∈ foursAt v p n, 0 ≤ d ∧ d < 4294967296 := by
  intro d hd
  obtain ⟨i, _, rfl⟩ := List.mem_map.1 hd
  exact n4_bound hv _
theorem gaps_own {w : World} {base n : Nat} {u : Value} {v : List Int} {p : Nat} (hv : Bytes v) (hn : n ≤ 4096) (h : w.ownsRow base 69 2 u n (gcs (gapsAt v p n))) : ∃ a cap, u = .slice a n cap ∧ Gaps base w a n (gapsAt v p n) := by
  obtain ⟨a, cap, rfl, hl, _⟩ := lies_own h
  exact ⟨a, cap, rfl, gapsAt_len _ _ _, by omega, gapsAt_in hv p n, hl⟩
theorem fours_own {w : World} {base n : Nat} {u : Value} {v : List Int} {p : Nat} (hv : Bytes v) (hn : n ≤ 4096) (h : w.ownsRow base 31 1 u n (dcs (foursAt v p n))) : ∃ a cap, u = .slice a n cap ∧ Fours base w a n (foursAt v p n) := by
  obtain ⟨a, cap, rfl, hl, _⟩ := lies_own h
  exact ⟨a, cap, rfl, foursAt_len _ _ _, by omega, foursAt_in hv p n, hl⟩
/-- the reader at B stands at a place, the chunk at C is this; their lists lie from n on -/
def Fl (base n : Nat) (w0 w : World) (B C : Nat) (v : List Int) (p : Nat) (c : Ck) : Prop :=
  Rp base w0 w B v p ∧ Bx w C c ∧ Lsts n w c ∧ B ≠ C ∧ B < n ∧ C < n ∧ w0.heap.size ≤ C ∧ n ≤ w.heap.size
/-- the reader has read -/
theorem Fl.read {base n : Nat} {w0 w w' : World} {B C p q : Nat} {v : List Int} {c : Ck} (h : Fl base n w0 w B C v p c) (hR : Rp base w0 w' B v q) (hg : w.grownBy w' (some B)) : Fl base n w0 w' B C v q c := by
  have hs : w.heap.size ≤ w'.heap.size := by obtain ⟨_, _, _, h, _⟩ := hg; exact h
  exact ⟨hR, h.2.1.grown hg (Ne.symm h.2.2.2.1), h.2.2.1.tch h.2.2.2.2.1 h.2.2.2.2.2.1 (Tch.ofB hg), h.2.2.2.1, h.2.2.2.2.1, h.2.2.2.2.2.1, h.2.2.2.2.2.2.1, Nat.le_trans h.2.2.2.2.2.2.2 hs⟩
/-- a field of the chunk is stored -/
theorem Fl.store {base n : Nat} {w0 w : World} {B C p i : Nat} {v : List Int} {c c' : Ck} {u : Value} (h : Fl base n w0 w B C v p c) (hx : Bx (w.setCell ⟨C, i, none⟩ u) C c') (hl : Lsts n w c → Lsts n w c') : Fl base n w0 (w.setCell ⟨C, i, none⟩ u) B C v p c' := by
  obtain ⟨h1, h2, h3, h4, h5, h6, h7, h8⟩ := h
  have hg := gr_set w C i u
  have hT := Tch.ofC (B := B) hg
  refine ⟨⟨h1.1.same ?_, h1.2.1, h1.2.2.1, hT.below h1.2.2.2.1 h1.2.2.2.1.size h1.2.2.2.2 h7, h1.2.2.2.2⟩, hx, (hl h3).tch h5 h6 hT, h4, h5, h6, h7, by simpa [World.setCell] using h8⟩
  obtain ⟨a1, a2, a3, a4, a5⟩ := hg
  exact a5 B h1.1.lt (by simpa using h4)
end Go.Proofs.Ytifdkpifambhaaa.Chu
