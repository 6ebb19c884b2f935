/-
  The document's box in memory; its small functions.
  Conditions: as at each lemma.
-/
import Derived.Test.YtjceeckcfjjkkaaOcE
import Derived.Test.YtjceeckcfjjkkaaSerialCalls
namespace Go.Proofs.Ytjceeckcfjjkkaa.Ob
open Go.ChangeShapes Go.WideShapes Go.ChangeAt Go.RowKit
open Ba (hidden Has cell_lt heap_lt)
set_option linter.unusedVariables false
/-- the document's box in memory, its parts named -/
structure Ro (D : Nat → Prop) (w : World) (r : Nat) (v : Value) (P : List CV) (n : Nat) (c : Int) (L : List Ch) : Prop where
  q : Has w r #[.int .i64 (n : Int), .int .u32 c, v] 91
  rw_ : Rw 59 w v P
  pr : P.map (·.x) = L
  by_ : ∀ p ∈ P, By D w p.v p.x.p.d
/-- its blocks -/
def FD (r : Nat) (v : Value) (k : Nat) : Prop := k = r ∨ v.ownBlock = some k
section
variable {D F G : Nat → Prop} {w w' : World} {r : Nat} {v : Value} {P : List CV} {n : Nat} {c : Int} {L : List Ch} {i g o : Nat} {x y : Ch}
theorem Ro.len (h : Ro D w r v P n c L) : P.length = L.length := by rw [← h.pr]; simp
theorem Ro.stay (h : Ro D w r v P n c L) (hm : Mod F w w') (h1 : ∀ k, FD r v k → ¬ F k) (h2 : ∀ k cur, D k → Has w k cur 5 → ¬ F k) : Ro D w' r v P n c L :=
  ⟨hm.has h.q (h1 r (.inl rfl)), h.rw_.stay hm (fun k hk => h1 k (.inr hk)), h.pr, fun p hp => (h.by_ p hp).stay hm h2⟩
theorem Ro.type (h : Ro D w r v P n c L) {k : Nat} (hk : FD r v k) : ∃ cs ty, Has w k cs ty ∧ (ty = 91 ∨ ty = 59) := by
  rcases hk with rfl | hk
  · exact ⟨_, _, h.q, .inl rfl⟩
  · obtain ⟨cur, hc⟩ := h.rw_.obj hk
    exact ⟨_, _, hc, .inr rfl⟩
theorem Ro.lt (h : Ro D w r v P n c L) {k : Nat} (hk : FD r v k) : k < w.heap.size := by
  obtain ⟨cs, ty, hh, _⟩ := h.type hk
  exact hh.lt
theorem Ro.later (h : Ro D w r v P n c L) (hB : Below w.heap.size w w') : Ro D w' r v P n c L :=
  h.stay (F := fun k => w.heap.size ≤ k) (Mod.of_below hB) (fun k hk hf => by have := h.lt hk; omega) (fun k cur _ hh hf => by have := hh.lt; omega)
theorem Ro.bytes (h : Ro D w r v P n c L) {k : Nat} {cur : Array Value} (hh : Has w k cur 5) : ¬ FD r v k := fun hk => by
  obtain ⟨cs, ty, h1, h2⟩ := h.type hk
  have := has_type hh h1
  rcases h2 with rfl | rfl <;> cases this
theorem Ro.nr (h : Ro D w r v P n c L) : ∀ k, v.ownBlock = some k → k ≠ r := fun k hk e => by
  obtain ⟨cur, hu⟩ := h.rw_.obj hk
  exact hu.ne h.q (by decide) e
/-- calls of the code's box leave it -/
theorem Ro.code {t f : Nat} {rv : Value} {P' : List CV} {nx m : Int} {n' : Nat} {L' : List Ch} {fs : Nat → Int} (h : Ro D w r v P n c L) (hc : No D w t f rv P' nx n' L' fs m) (hm : Mod (FC t f rv) w w') : Ro D w' r v P n c L :=
  h.stay hm (fun k hk hf => by
    obtain ⟨cs, ty, hh, ht⟩ := h.type hk
    obtain ⟨cs', ty', hh', ht'⟩ := hc.type hf
    have := has_type hh hh'
    subst this
    rcases ht with rfl | rfl <;> rcases ht' with e | e | e <;> exact absurd e (by decide)) (fun k cur _ hh => hc.bytes hh)
/-- calls of the document's box leave the code's -/
theorem No.doc {t f : Nat} {rv : Value} {P' : List CV} {nx m : Int} {n' : Nat} {L' : List Ch} {fs : Nat → Int} (h : Ro D w r v P n c L) (hc : No D w t f rv P' nx n' L' fs m) (hm : Mod (FD r v) w w') : No D w' t f rv P' nx n' L' fs m :=
  hc.stay hm (fun k hf hk => by
    obtain ⟨cs, ty, hh, ht⟩ := h.type hk
    obtain ⟨cs', ty', hh', ht'⟩ := hc.type hf
    have := has_type hh hh'
    subst this
    rcases ht with rfl | rfl <;> rcases ht' with e | e | e <;> exact absurd e (by decide)) (fun k cur _ hh => h.bytes hh)
theorem Ro.at (h : Ro D w r v P n c L) (hi : L[i]? = some x) : ∃ p, P[i]? = some p ∧ p.x = x := by
  rw [← h.pr, List.getElem?_map] at hi
  cases hp : P[i]? with
  | none => rw [hp] at hi; cases hi
  | some p => rw [hp] at hi; cases hi; exact ⟨p, rfl, rfl⟩
/-- the chunk at a place, its cells -/
theorem Ro.chunk (h : Ro D w r v P n c L) (hp : Pl v i g o) (hi : L[i]? = some x) : ∃ u, Cells w g o ⟨x, u⟩ ∧ By D w u x.p.d ∧ g < w.heap.size ∧ (∀ c, w.frozen? ⟨g, c, none⟩ = false) := by
  obtain ⟨p, h1, rfl⟩ := h.at hi
  obtain ⟨k1, k2, k3⟩ := h.rw_.cell hp h1
  exact ⟨p.v, k1, h.by_ p (List.mem_of_getElem? h1), k2, k3⟩
/-- one cell of a chunk is set -/
theorem Ro.setC (h : Ro D w r v P n c L) (hp : Pl v i g o) (hi : L[i]? = some x) {cc_ : Nat} {u : Value} (hc : cc_ < 14) (hs : ∀ v, (cc ⟨x, v⟩).set cc_ u = cc ⟨y, v⟩) (hd : y.p.d = x.p.d) : ∃ P', Ro D (w.setCell ⟨g, o + cc_, none⟩ u) r v P' n c (L.set i y) := by
  obtain ⟨p, h1, rfl⟩ := h.at hi
  have ho := hp.own
  have hm : Mod (fun k => k = g) w (w.setCell ⟨g, o + cc_, none⟩ u) := Mod.setCell (F := fun k => k = g) w (p := ⟨g, o + cc_, none⟩) rfl u
  refine ⟨P.set i ⟨y, p.v⟩, hm.has h.q (fun e => h.nr g ho e.symm), h.rw_.set hp h1 hc (hs p.v), ?_, fun q hq => ?_⟩
  · rw [List.map_set, h.pr]
  · have hst : ∀ q ∈ P, By D (w.setCell ⟨g, o + cc_, none⟩ u) q.v q.x.p.d := fun q hq => (h.by_ q hq).stay hm (fun k cur _ hh e => by
      subst e
      exact h.bytes hh (.inr ho))
    rcases List.mem_or_eq_of_mem_set hq with hq | rfl
    · exact hst q hq
    · show By D _ p.v y.p.d
      rw [hd]
      exact hst p (List.mem_of_getElem? h1)
theorem r_has (h : Ro D w r v P n c L) (s : Int) : Calls Try.prog 63 #[.pointer (some ⟨r, 0, none⟩), .int .i64 s] w fun e w' => e = .returned (.bool (decide (0 ≤ s ∧ s < (n : Int)))) ∧ w = w' := by
  have c0 := h.q.cell 0 rfl
  clear h
  by_cases h0 : 0 ≤ s
  · by_cases h1 : s < (n : Int)
    · rw [decide_eq_true (⟨h0, h1⟩ : 0 ≤ s ∧ s < (n : Int))]
      go_enter Try.func63, Try.ntmps63
      go_wp2
      go_ret
      exact ⟨by simp, rfl⟩
    · rw [decide_eq_false (fun h : 0 ≤ s ∧ s < (n : Int) => h1 h.2)]
      go_enter Try.func63, Try.ntmps63
      go_wp2
      go_ret
      exact ⟨by simp <;> omega, rfl⟩
  · rw [decide_eq_false (fun h : 0 ≤ s ∧ s < (n : Int) => h0 h.1)]
    go_enter Try.func63, Try.ntmps63
    go_wp2
    go_ret
    exact ⟨rfl, rfl⟩
theorem r_time (s : Int) (w : World) : Calls Try.prog 64 #[.int .i64 s] w fun e w' => e = .returned (.bool (decide (0 ≤ s ∧ s ≤ 1099511627776))) ∧ w = w' := by
  by_cases h0 : 0 ≤ s
  · by_cases h1 : s ≤ 1099511627776
    · rw [decide_eq_true (⟨h0, h1⟩ : 0 ≤ s ∧ s ≤ 1099511627776)]
      go_enter Try.func64, Try.ntmps64
      go_wp2
      go_ret
      exact ⟨by simp, rfl⟩
    · rw [decide_eq_false (fun h : 0 ≤ s ∧ s ≤ 1099511627776 => h1 h.2)]
      go_enter Try.func64, Try.ntmps64
      go_wp2
      go_ret
      exact ⟨by simp <;> omega, rfl⟩
  · rw [decide_eq_false (fun h : 0 ≤ s ∧ s ≤ 1099511627776 => h0 h.1)]
    go_enter Try.func64, Try.ntmps64
    go_wp2
    go_ret
    exact ⟨rfl, rfl⟩
/-- a chunk by value: a place that bytes have, or none -/
def Sl (u : Value) (n : Nat) : Prop := ∃ a cap, u = .slice a n cap
theorem By.sl {u : Value} {zs : List Int} (h : By D w u zs) : Sl u zs.length := by
  obtain ⟨g, off, cap, rfl, _⟩ := h.row
  exact ⟨_, _, rfl⟩
theorem r_size (x : Ch) {u : Value} (hu : Sl u x.p.d.length) (w : World) : Calls Try.prog 72 #[ov x u] w fun e w' => e = .returned (.int .i64 (sz x)) ∧ Below w.heap.size w w' := by
  obtain ⟨a, cap, rfl⟩ := hu
  unfold sz ov
  generalize x.p.d.length = z
  go_enter Try.func72, Try.ntmps72
  go_wp2
  go_ret
  exact ⟨rfl, (Below.refl _ w).alloc (Nat.le_refl _) _⟩
theorem r_open (x : Ch) (u : Value) (w : World) : Calls Try.prog 71 #[ov x u] w fun e w' => e = .returned (.bool (opn x)) ∧ Below w.heap.size w w' := by
  unfold opn ov
  by_cases h1 : x.st = 1
  · rw [h1]
    go_enter Try.func71, Try.ntmps71
    go_wp2
    go_ret
    exact ⟨rfl, (Below.refl _ w).alloc (Nat.le_refl _) _⟩
  · have h1b : (x.st == 1) = false := by simp [h1]
    go_enter Try.func71, Try.ntmps71
    go_wp2
    go_ret
    exact ⟨by simp [h1]; rfl, (Below.refl _ w).alloc (Nat.le_refl _) _⟩
theorem r_nr (c : Ck) (w : World) : Calls Try.prog 66 #[kv c] w fun e w' => e = .returned c.fv ∧ Below w.heap.size w w' := by
  obtain ⟨kd, fg, tsn, sm, sn, pr, tag, win, out, inn, ga, gl, gc, na, nl, nc, da, dl, dc, ba, bl, bc, pa, pl, pc⟩ := c
  unfold kv kcs Ck.fv Ck.nv
  simp only
  by_cases h0 : kd = 16
  · subst h0
    go_enter Try.func66, Try.ntmps66
    go_wp2
    go_ret
    exact ⟨rfl, (Below.refl _ w).alloc (Nat.le_refl _) _⟩
  · have h0b : (kd == 16) = false := by simp [h0]
    rw [if_neg h0]
    go_enter Try.func66, Try.ntmps66
    go_wp2
    go_ret
    exact ⟨rfl, (Below.refl _ w).alloc (Nat.le_refl _) _⟩
theorem r_next (h : Ro D w r v P n c L) (hc : 0 ≤ c ∧ c < 4294967296) (hl : L.length ≤ 100000) : Calls Try.prog 36 #[.pointer (some ⟨r, 0, none⟩)] w fun e w' => e = .returned (.int .u32 ((c + (L.length : Int) + 1) % 4294967296)) ∧ Below w.heap.size w w' := by
  have c1 := h.q.cell 1 rfl
  have c2 := h.q.cell 2 rfl
  obtain ⟨a, cap, hv, _⟩ := h.rw_.slice
  rw [h.len] at hv
  rw [hv] at c2
  have RA := hidden (fun w => Ser.radd c ((L.length : Int) + 1) hc (by omega) w)
  have HE : Hid (∀ z : Int, (c + (z + 1)) % 4294967296 = (c + z + 1) % 4294967296) := fun z => by rw [Int.add_assoc]
  have hw1 : IntKind.i64.wrap ((L.length : Int) + 1) = (L.length : Int) + 1 := by rw [IntKind.wrap_i64]; omega
  have hw2 : IntKind.u32.wrap ((L.length : Int) + 1) = (L.length : Int) + 1 := by show ((L.length : Int) + 1) % 4294967296 = _; omega
  generalize L.length = z at *
  have HH : Hid (∀ X : World, Below w.heap.size w X → X.cell? ⟨r, 1, none⟩ = some (.int .u32 c) ∧ X.cell? ⟨r, 2, none⟩ = some (.slice a z cap) ∧ Below w.heap.size w X) := fun X hX => ⟨(hX.cell (p := ⟨r, 1, none⟩) (cell_lt c1)).trans c1, (hX.cell (p := ⟨r, 2, none⟩) (cell_lt c2)).trans c2, hX⟩
  have PX : Hid (∀ X : World, Below w.heap.size w X → Calls Try.prog 21 #[.int .u32 c, .int .u32 ((z : Int) + 1)] X fun e w' => e = .returned (.int .u32 ((c + ((z : Int) + 1)) % 4294967296)) ∧ Below w.heap.size w w') := fun X hX => (RA.out X).mono (by rintro e w' ⟨rfl, rfl⟩; exact ⟨rfl, hX⟩)
  clear h hv hl hc RA
  go_enter Try.func36, Try.ntmps36
  go_wp2_with fail
  go_region_held3 (fun X => X.cell? ⟨r, 1, none⟩ = some (.int .u32 c) ∧ X.cell? ⟨r, 2, none⟩ = some (.slice a z cap) ∧ Below w.heap.size w X)
    (first | (exact HH.out _ (Below.refl _ _).drew) | (exact HH.out _ (by assumption)) | (trace_state; fail))
    (first | (go_at_call 21; refine Calls.mono (PX.out _ ?_) ?_; (first | assumption | exact (Below.refl _ _).drew); rintro e X ⟨rfl, hX⟩))
  go_wp2
  go_ret
  exact ⟨congrArg (fun y => Ending.returned (.int .u32 y)) (HE.out _), hX⟩
/-- numbers of a box that is new -/
theorem r_new (D : Nat → Prop) (fi n : Int) (h1 : 1 ≤ n) (h2 : n ≤ 8) (w : World) :
    Calls Try.prog 10 #[.int .u32 fi, .int .i64 n] w fun e w' => ∃ r, e = .returned (.tuple #[.pointer (some ⟨r, 0, none⟩), .int .i64 0]) ∧ Ro D w' r (.slice none 0 0) [] n.toNat ((fi - 1) % 4294967296) [] ∧ w.heap.size ≤ r ∧ Below w.heap.size w w' := by
  obtain ⟨m, rfl⟩ : ∃ m : Nat, n = m := ⟨n.toNat, by omega⟩
  have hu : IntKind.u32.wrap (fi - 1) = (fi - 1) % 4294967296 := rfl
  have g1 : ¬ ((m : Int) < 1) := by omega
  have g2 : ¬ (8 < (m : Int)) := by omega
  go_enter Try.func10, Try.ntmps10
  go_wp2
  go_ret2
  exact ⟨w.heap.size, rfl, ⟨Has.new _ _ _, Rw.nil, rfl, fun p hp => by cases hp⟩, Nat.le_refl _, (Below.refl _ w).alloc (Nat.le_refl _) _⟩
theorem r_new_no (fi n : Int) (h1 : ¬ (1 ≤ n ∧ n ≤ 8)) (w : World) :
    Calls Try.prog 10 #[.int .u32 fi, .int .i64 n] w fun e w' => e = .returned (.tuple #[.pointer none, .int .i64 1]) ∧ w = w' := by
  by_cases g1 : n < 1
  · go_enter Try.func10, Try.ntmps10
    go_wp2
    go_ret2
    exact ⟨rfl, rfl⟩
  · have g2 : 8 < n := by omega
    go_enter Try.func10, Try.ntmps10
    go_wp2
    go_ret2
    exact ⟨rfl, rfl⟩
end
end Go.Proofs.Ytjceeckcfjjkkaa.Ob
