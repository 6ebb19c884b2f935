/-
  A network in memory: what may have turned, by the types of blocks; lanes, rows, packets.
  Conditions: as at each lemma.
-/
import Derived.Test.YtmogacccffkkbaaNtM
import Derived.Test.YtmogacccffkkbaaRg
import Derived.OpenShut
import Derived.OneCell
import Derived.Deep.OwnRows
import Derived.Laws.BytesArg
namespace Go.Proofs.Ytmogacccffkkbaa.Nt
open Go.ChangeShapes Go.WideShapes Go.ChangeAt Go.RowKit
open Ba (hidden Only In Has own_ne own_stay own_len own_some own_mono cell_lt heap_lt)
set_option linter.unusedVariables false

/-- of what was there only blocks of these types may have turned, and none ahead of base -/
structure Kept (TY : TypeId → Bool) (base : Nat) (w w' : World) : Prop where
  os : w'.os = w.os
  tape : w'.tape = w.tape
  output : w'.output = w.output
  size : w.heap.size ≤ w'.heap.size
  block : ∀ k, k < w.heap.size → (k < base ∨ ∀ cs t m, w.heap[k]? = some (.cells cs t m) → TY t = false) → w'.heap[k]? = w.heap[k]?
section
variable {TY : TypeId → Bool} {base : Nat} {w w' w1 : World}
theorem Kept.refl (TY : TypeId → Bool) (base : Nat) (w : World) : Kept TY base w w := ⟨rfl, rfl, rfl, Nat.le_refl _, fun _ _ _ => rfl⟩
theorem Kept.trans (h : Kept TY base w w1) (k : Kept TY base w1 w') : Kept TY base w w' :=
  ⟨k.os.trans h.os, k.tape.trans h.tape, k.output.trans h.output, Nat.le_trans h.size k.size, fun i hl hc => by
    have e := h.block i hl hc
    refine (k.block i (Nat.lt_of_lt_of_le hl h.size) ?_).trans e
    rw [e]
    exact hc⟩
theorem Kept.of_below (h : Below w.heap.size w w') : Kept TY base w w' := ⟨h.os, h.tape, h.output, h.size, fun k hk _ => h.block k hk⟩
theorem Kept.below (h : Kept TY base w w') (hb : base ≤ w.heap.size) : Below base w w' := ⟨h.os, h.tape, h.output, h.size, fun k hk => h.block k (by omega) (.inl hk)⟩
theorem Kept.later (h : Kept TY base w w1) (k : Below w1.heap.size w1 w') : Kept TY base w w' := h.trans (Kept.of_below k)
theorem Kept.alloc (h : Kept TY base w w1) (o : Obj) : Kept TY base w (w1.alloc o) := h.later ((Below.refl _ w1).alloc (Nat.le_refl _) o)
theorem Kept.drew (h : Kept TY base w w1) : Kept TY base w w1.drew := ⟨h.os, h.tape, h.output, h.size, h.block⟩
theorem Kept.setNew (h : Kept TY base w w1) {p : Addr} (hp : w.heap.size ≤ p.block) (u : Value) : Kept TY base w (w1.setCell p u) :=
  ⟨h.os, h.tape, h.output, by have := h.size; simp [World.setCell]; exact this, fun k hk hc => (Below.heap_setCell w1 p u k (by omega)).trans (h.block k hk hc)⟩
theorem Kept.set (h : Kept TY base w w1) {p : Addr} {cs : Array Value} {t : TypeId} (hh : Has w1 p.block cs t) (ht : TY t = true) (hb : base ≤ p.block) (u : Value) : Kept TY base w (w1.setCell p u) :=
  ⟨h.os, h.tape, h.output, by have := h.size; simp [World.setCell]; exact this, fun k hk hc => by
    have e := h.block k hk hc
    refine (Below.heap_setCell w1 p u k (fun ek => ?_)).trans e
    subst ek
    rcases hc with hc | hc
    · omega
    · have e1 : w1.heap[p.block]? = some (.cells cs t (0, 0)) := hh
      rw [e1] at e
      rw [hc _ _ _ e.symm] at ht
      cases ht⟩
theorem Kept.grown {E s n : Nat} {v : Value} {xs : List Value} (hown : w.ownsRow base E s v n xs) (ht : TY E = true) (hg : w.grownBy w' v.ownBlock) : Kept TY base w w' :=
  ⟨hg.os, hg.tape, hg.output, hg.size, fun k hk hc => hg.block k hk fun e => by
    rcases hown.2 with ⟨rfl, _⟩ | ⟨g, cap, cur, rfl, hb, hgg, _⟩
    · cases e
    · cases e
      rcases hc with hc | hc
      · exact absurd hb (Nat.not_le.2 hc)
      · rw [hc _ _ _ hgg] at ht; cases ht⟩
theorem Kept.only {E s n : Nat} {v : Value} {xs : List Value} (hown : w.ownsRow base E s v n xs) (ht : TY E = true) (hg : Only v.ownBlock.toList w w') : Kept TY base w w' :=
  ⟨hg.os, hg.tape, hg.output, hg.size, fun k hk hc => hg.block k hk fun e => by
    rcases hown.2 with ⟨rfl, _⟩ | ⟨g, cap, cur, rfl, hb, hgg, _⟩
    · simp [Value.ownBlock] at e
    · simp [Value.ownBlock] at e
      subst e
      rcases hc with hc | hc
      · omega
      · rw [hc _ _ _ hgg] at ht; cases ht⟩
theorem Kept.mono {TZ : TypeId → Bool} (h : Kept TY base w w') (hs : ∀ t, TZ t = false → TY t = false) : Kept TZ base w w' :=
  ⟨h.os, h.tape, h.output, h.size, fun k hk hc => h.block k hk (hc.imp id fun h2 cs t m e => hs t (h2 cs t m e))⟩
theorem Kept.has {b : Nat} {cs : Array Value} {t : TypeId} (h : Kept TY base w w') (hh : Has w b cs t) (ht : TY t = false) : Has w' b cs t := by
  have e : w.heap[b]? = some (.cells cs t (0, 0)) := hh
  refine (h.block b hh.lt (.inr fun cs' t' m' e' => ?_)).trans hh
  rw [e] at e'
  cases e'
  exact ht
theorem Kept.own {base' E s n : Nat} {v : Value} {xs : List Value} (h : Kept TY base w w') (hown : w.ownsRow base' E s v n xs) (ht : TY E = false) : w'.ownsRow base' E s v n xs := by
  refine ⟨hown.1, ?_⟩
  rcases hown.2 with h0 | ⟨g, cap, cur, rfl, hb, hg, r⟩
  · exact .inl h0
  · refine .inr ⟨g, cap, cur, rfl, hb, (h.block g (heap_lt hg) (.inr fun cs t m e => ?_)).trans hg, r⟩
    rw [hg] at e
    cases e
    exact ht
end
theorem own_set_other {w : World} {base E s n : Nat} {v : Value} {xs : List Value} (h : w.ownsRow base E s v n xs) {p : Addr} (hp : ∀ k, v.ownBlock = some k → k ≠ p.block) (u : Value) : (w.setCell p u).ownsRow base E s v n xs :=
  ownsRow_setCell_other h (fun e => hp _ e rfl) u

-- rows of wide elements
section
variable {X : Type} {f : X → List Value} {k : Nat}
theorem flat_len (hf : ∀ x, (f x).length = k) (L : List X) : (L.flatMap f).length = L.length * k := by
  induction L with
  | nil => simp
  | cons x L ih => rw [List.flatMap_cons, List.length_append, ih, hf, List.length_cons, Nat.add_mul]; omega
theorem flat_at (hf : ∀ x, (f x).length = k) : ∀ (L : List X) {j : Nat} {x : X}, L[j]? = some x → ∀ {c : Nat}, c < k → (L.flatMap f)[j * k + c]? = (f x)[c]?
  | [], j, x, h, c, hc => by simp at h
  | y :: L, 0, x, h, c, hc => by
    simp at h
    subst h
    rw [List.flatMap_cons, List.getElem?_append_left (by rw [hf]; omega)]
    simp
  | y :: L, j + 1, x, h, c, hc => by
    rw [List.flatMap_cons, List.getElem?_append_right (by rw [hf, Nat.add_mul]; omega), hf, show (j + 1) * k + c - k = j * k + c by rw [Nat.add_mul]; omega]
    exact flat_at hf L (by simpa using h) hc
theorem flat_set (hf : ∀ x, (f x).length = k) : ∀ (L : List X) {j : Nat} {x y : X}, L[j]? = some x → ∀ {c : Nat} {u : Value}, c < k → (f x).set c u = f y → (L.flatMap f).set (j * k + c) u = (L.set j y).flatMap f
  | [], j, x, y, h, c, u, hc, hs => by simp at h
  | z :: L, 0, x, y, h, c, u, hc, hs => by
    simp at h
    subst h
    rw [List.flatMap_cons, List.set_append_left _ _ (by rw [hf]; omega), List.set_cons_zero, List.flatMap_cons]
    simp [hs]
  | z :: L, j + 1, x, y, h, c, u, hc, hs => by
    rw [List.flatMap_cons, List.set_append_right _ _ (by rw [hf, Nat.add_mul]; omega), hf, show (j + 1) * k + c - k = j * k + c by rw [Nat.add_mul]; omega, List.set_cons_succ, List.flatMap_cons]
    rw [flat_set hf L (by simpa using h) hc hs]
theorem flat_take (hf : ∀ x, (f x).length = k) : ∀ (L : List X) (n : Nat), (L.flatMap f).take (n * k) = (L.take n).flatMap f
  | [], n => by simp
  | x :: L, 0 => by simp
  | x :: L, n + 1 => by
    have e : (n + 1) * k - (f x).length = n * k := by rw [hf, Nat.add_mul]; omega
    rw [List.flatMap_cons, List.take_succ_cons, List.flatMap_cons, List.take_append, e, List.take_of_length_le (by rw [hf, Nat.add_mul]; omega), flat_take hf L n]
theorem flat_drop (hf : ∀ x, (f x).length = k) : ∀ (L : List X) (n : Nat), (L.flatMap f).drop (n * k) = (L.drop n).flatMap f
  | [], n => by simp
  | x :: L, 0 => by simp
  | x :: L, n + 1 => by
    rw [List.flatMap_cons, List.drop_succ_cons, List.drop_append, List.drop_of_length_le (by rw [hf, Nat.add_mul]; omega), hf, show (n + 1) * k - k = n * k by rw [Nat.add_mul]; omega, flat_drop hf L n]
    rfl
end

/-- a packet's cells -/
def pc (q : Pk) : List Value := [.int .i64 q.id, .int .i64 q.sent, .int .i64 q.len, .bool q.forged, .string (strOfNums q.bs)]
def pv (q : Pk) : Value := .agg #[.int .i64 q.id, .int .i64 q.sent, .int .i64 q.len, .bool q.forged, .string (strOfNums q.bs)]
def pcs (L : List Pk) : List Value := L.flatMap pc
theorem pc_len (q : Pk) : (pc q).length = 5 := rfl
theorem pcs_len (L : List Pk) : (pcs L).length = L.length * 5 := flat_len pc_len L
/-- a row's cells -/
def rc (T : Tr) (v : Value) : List Value := [.int .i64 T.s, .int .i64 T.d, .int .i64 T.l, .int .i64 T.f, v]
theorem idx_inj {i e k i' e' k' : Nat} (he : e < 2) (hk : k < 5) (he' : e' < 2) (hk' : k' < 5) (h : i * 11 + e * 5 + k = i' * 11 + e' * 5 + k') : i = i' ∧ e = e' ∧ k = k' := by
  have h1 : (i * 11 + e * 5 + k) / 11 = i := by omega
  have h2 : (i' * 11 + e' * 5 + k') / 11 = i' := by omega
  have h3 : i = i' := by rw [← h1, h, h2]
  omega
theorem idx_off {i e k i' : Nat} (he : e < 2) (hk : k < 5) : i * 11 + e * 5 + k ≠ i' * 11 + 10 := fun h => by
  have h1 : (i * 11 + e * 5 + k) / 11 = i := by omega
  have h2 : (i' * 11 + 10) / 11 = i' := by omega
  have h3 : i = i' := by rw [← h1, h, h2]
  omega
/-- the lanes in block b -/
def Ln (w : World) (b p : Nat) (T : Nat → Nat → Tr) (vs : Nat → Nat → Value) (off : Nat → Bool) : Prop :=
  ∃ cs, Has w b cs 101 ∧ (∀ i e k, i < p → e < 2 → k < 5 → cs[i * 11 + e * 5 + k]? = (rc (T i e) (vs i e))[k]?) ∧ ∀ i, i < p → cs[i * 11 + 10]? = some (.bool (off i))
section
variable {w w' : World} {b p : Nat} {T : Nat → Nat → Tr} {vs : Nat → Nat → Value} {off : Nat → Bool} {i e k : Nat}
theorem Ln.cell (h : Ln w b p T vs off) (hi : i < p) (he : e < 2) (k : Nat) {u : Value} (hu : (rc (T i e) (vs i e))[k]? = some u) : w.cell? ⟨b, i * 11 + e * 5 + k, none⟩ = some u := by
  obtain ⟨cs, h1, h2, h3⟩ := h
  have hk : k < 5 := (List.getElem?_eq_some_iff.1 hu).1
  exact h1.cell _ ((h2 i e k hi he hk).trans hu)
theorem Ln.down (h : Ln w b p T vs off) (hi : i < p) : w.cell? ⟨b, i * 11 + 10, none⟩ = some (.bool (off i)) := by
  obtain ⟨cs, h1, h2, h3⟩ := h
  exact h1.cell _ (h3 i hi)
theorem Ln.frozen (h : Ln w b p T vs off) (j : Nat) : w.frozen? ⟨b, j, none⟩ = false := by
  obtain ⟨cs, h1, _⟩ := h; exact h1.frozen j
theorem Ln.has (h : Ln w b p T vs off) : ∃ cs, Has w b cs 101 := by
  obtain ⟨cs, h1, _⟩ := h; exact ⟨cs, h1⟩
theorem Ln.move (h : Ln w b p T vs off) (hh : ∀ cs, Has w b cs 101 → Has w' b cs 101) : Ln w' b p T vs off := by
  obtain ⟨cs, h1, r⟩ := h; exact ⟨cs, hh cs h1, r⟩
theorem Ln.set (h : Ln w b p T vs off) (hi : i < p) (he : e < 2) (hk : k < 5) {u : Value} {T' : Tr} {v' : Value} (hq : (rc (T i e) (vs i e)).set k u = rc T' v') : Ln (w.setCell ⟨b, i * 11 + e * 5 + k, none⟩ u) b p (up2 T i e T') (up2 vs i e v') off := by
  obtain ⟨cs, h1, h2, h3⟩ := h
  refine ⟨_, h1.set _ u, fun i' e' k' hi' he' hk' => ?_, fun i' hi' => ?_⟩
  · rw [Array.getElem?_setIfInBounds]
    have hin : i * 11 + e * 5 + k < cs.size := by
      have := h2 i e k hi he hk
      rcases Nat.lt_or_ge (i * 11 + e * 5 + k) cs.size with hl | hl
      · exact hl
      · rw [Array.getElem?_eq_none hl] at this
        have e2 : (rc (T i e) (vs i e))[k]? ≠ none := by
          rw [List.getElem?_eq_getElem (by simpa [rc] using hk)]; simp
        exact absurd this.symm e2
    by_cases hie : i' = i ∧ e' = e
    · obtain ⟨rfl, rfl⟩ := hie
      rw [up2_same, up2_same, ← hq, List.getElem?_set]
      by_cases hkk : k = k'
      · subst hkk
        simp [hin, rc, hk]
      · rw [if_neg (fun h => hkk (idx_inj he hk he hk' h).2.2), if_neg hkk]
        exact h2 i' e' k' hi' he' hk'
    · rw [up2_ne _ _ hie, up2_ne _ _ hie, if_neg (fun h => hie (by obtain ⟨a, b, _⟩ := idx_inj he hk he' hk' h; exact ⟨a.symm, b.symm⟩))]
      exact h2 i' e' k' hi' he' hk'
  · rw [Array.getElem?_setIfInBounds, if_neg (idx_off he hk)]
    exact h3 i' hi'
theorem Ln.setOff (h : Ln w b p T vs off) (hi : i < p) (x : Bool) : Ln (w.setCell ⟨b, i * 11 + 10, none⟩ (.bool x)) b p T vs (up1 off i x) := by
  obtain ⟨cs, h1, h2, h3⟩ := h
  refine ⟨_, h1.set _ _, fun i' e' k' hi' he' hk' => ?_, fun i' hi' => ?_⟩
  · rw [Array.getElem?_setIfInBounds, if_neg (idx_off he' hk').symm]
    exact h2 i' e' k' hi' he' hk'
  · rw [Array.getElem?_setIfInBounds]
    by_cases hie : i' = i
    · subst hie
      have hin : i' * 11 + 10 < cs.size := (Array.getElem?_eq_some_iff.1 (h3 i' hi')).1
      rw [up1_same]
      simp [hin]
    · rw [up1_ne _ _ hie, if_neg (by omega)]
      exact h3 i' hi'
end
/-- a network in memory, its parts named -/
structure No (base : Nat) (w : World) (t b : Nat) (vs : Nat → Nat → Value) (S : St) : Prop where
  bt : base ≤ t
  bb : base ≤ b
  net : Has w t #[.slice (some ⟨b, 0, none⟩) S.p S.p, .int .i64 S.next] 57
  ln : Ln w b S.p (fun i e => (S.R i e).T) vs S.off
  own : ∀ i e, w.ownsRow base 88 5 (vs i e) (S.R i e).L.length (pcs (S.R i e).L)
  ap : ∀ i e i' e' k, (vs i e).ownBlock = some k → (vs i' e').ownBlock = some k → i = i' ∧ e = e'
def TYc (t : TypeId) : Bool := t == 57 || t == 101 || t == 88
section
variable {base : Nat} {w w' w1 : World} {t b : Nat} {vs : Nat → Nat → Value} {S : St} {i e : Nat} {TY : TypeId → Bool}
theorem No.stay (h : No base w t b vs S) (hk : Kept TY base w w') (h1 : TY 57 = false) (h2 : TY 101 = false) (h3 : TY 88 = false) : No base w' t b vs S :=
  ⟨h.bt, h.bb, hk.has h.net h1, h.ln.move (fun cs hc => hk.has hc h2), fun i e => hk.own (h.own i e) h3, h.ap⟩
theorem No.later (h : No base w t b vs S) (hB : Below w.heap.size w w') : No base w' t b vs S := h.stay (TY := fun _ => false) (Kept.of_below hB) rfl rfl rfl
theorem No.tb (h : No base w t b vs S) : t ≠ b := by
  obtain ⟨cs, hc⟩ := h.ln.has
  exact h.net.ne hc (by decide)
theorem No.nb (h : No base w t b vs S) : ∀ k, (vs i e).ownBlock = some k → k ≠ b := by
  obtain ⟨cs, hc⟩ := h.ln.has
  exact fun k hk e1 => own_ne (h.own i e) hc (by decide) k hk e1.symm
theorem No.nt (h : No base w t b vs S) : ∀ k, (vs i e).ownBlock = some k → k ≠ t := fun k hk e1 => own_ne (h.own i e) h.net (by decide) k hk e1.symm
theorem No.setT (h : No base w t b vs S) (hi : i < S.p) (he : e < 2) {k : Nat} (hk : k < 4) {u : Value} {T' : Tr} (hq : (rc (S.R i e).T (vs i e)).set k u = rc T' (vs i e)) : No base (w.setCell ⟨b, i * 11 + e * 5 + k, none⟩ u) t b vs (S.row i e ⟨T', (S.R i e).L⟩) := by
  have hl := h.ln.set hi he (k := k) (by omega) hq
  rw [up2_self] at hl
  refine ⟨h.bt, h.bb, h.net.set_other h.tb _, ?_, fun i' e' => ?_, h.ap⟩
  · refine cast ?_ hl
    congr 1
    funext i' e'
    show up2 _ i e T' i' e' = (up2 S.R i e _ i' e').T
    unfold up2
    split <;> rfl
  · have : ((S.row i e ⟨T', (S.R i e).L⟩).R i' e').L = (S.R i' e').L := by
      show (up2 S.R i e _ i' e').L = _
      unfold up2
      split
      · next hq => rw [hq.1, hq.2]
      · rfl
    rw [this]
    exact own_set_other (h.own i' e') h.nb _
theorem No.setNext (h : No base w t b vs S) (n : Int) : No base (w.setCell ⟨t, 1, none⟩ (.int .i64 n)) t b vs ⟨S.p, n, S.R, S.off⟩ := by
  refine ⟨h.bt, h.bb, h.net.set 1 _, h.ln.move (fun cs hc => hc.set_other h.tb.symm _), fun i e => own_set_other (h.own i e) h.nt _, h.ap⟩
theorem No.setOff (h : No base w t b vs S) (hi : i < S.p) (x : Bool) : No base (w.setCell ⟨b, i * 11 + 10, none⟩ (.bool x)) t b vs (offS S i x) :=
  ⟨h.bt, h.bb, h.net.set_other h.tb _, h.ln.setOff hi x, fun i e => own_set_other (h.own i e) h.nb _, h.ap⟩
theorem ap_up {f : Nat → Nat → Value} {v : Value} {n : Nat} (h : ∀ i e i' e' k, (f i e).ownBlock = some k → (f i' e').ownBlock = some k → i = i' ∧ e = e') (hlt : ∀ i e k, (f i e).ownBlock = some k → k < n) (hv : ∀ k, v.ownBlock = some k → (f i e).ownBlock = some k ∨ n ≤ k) :
    ∀ i1 e1 i' e' k, (up2 f i e v i1 e1).ownBlock = some k → (up2 f i e v i' e').ownBlock = some k → i1 = i' ∧ e1 = e' := by
  intro i1 e1 i' e' k h1 h2
  unfold up2 at h1 h2
  split at h1
  · next hq =>
    split at h2
    · next hq2 => exact ⟨hq.1.trans hq2.1.symm, hq.2.trans hq2.2.symm⟩
    · rcases hv k h1 with h3 | h3
      · obtain ⟨r1, r2⟩ := h _ _ _ _ _ h3 h2
        exact ⟨hq.1.trans r1, hq.2.trans r2⟩
      · have := hlt _ _ _ h2; omega
  · split at h2
    · next hq2 =>
      rcases hv k h2 with h3 | h3
      · obtain ⟨r1, r2⟩ := h _ _ _ _ _ h1 h3
        exact ⟨r1.trans hq2.1.symm, r2.trans hq2.2.symm⟩
      · have := hlt _ _ _ h1; omega
    · exact h _ _ _ _ _ h1 h2
/-- a row's turn: its packets elsewhere or turned in place, then its place in the lane -/
theorem No.turn (h : No base w t b vs S) (hi : i < S.p) (he : e < 2) (hO : Only (vs i e).ownBlock.toList w w1) {v' : Value} {L' : List Pk} (hown : w1.ownsRow base 88 5 v' L'.length (pcs L')) (hv : ∀ k, v'.ownBlock = some k → (vs i e).ownBlock = some k ∨ w.heap.size ≤ k) :
    No base (w1.setCell ⟨b, i * 11 + e * 5 + 4, none⟩ v') t b (up2 vs i e v') (S.row i e ⟨(S.R i e).T, L'⟩) := by
  have hb : ∀ cs, Has w b cs 101 → Has w1 b cs 101 := fun cs hc => hc.stay hO (by intro hh; exact h.nb b (by simpa using hh) rfl)
  have hl := (h.ln.move hb).set hi he (k := 4) (by omega) (u := v') (T' := (S.R i e).T) (v' := v') rfl
  obtain ⟨cs, hcs⟩ := h.ln.has
  have hcs1 := hb cs hcs
  refine ⟨h.bt, h.bb, (h.net.stay hO (by intro hh; exact h.nt t (by simpa using hh) rfl)).set_other h.tb _, ?_, fun i' e' => ?_, ap_up h.ap (fun i e k hk => ((h.own i e).lt k hk).2) hv⟩
  · refine cast ?_ hl
    congr 1
    funext i' e'
    show up2 _ i e _ i' e' = (up2 S.R i e _ i' e').T
    unfold up2
    split <;> rfl
  · show (w1.setCell _ _).ownsRow base 88 5 (up2 vs i e v' i' e') (up2 S.R i e _ i' e').L.length (pcs (up2 S.R i e _ i' e').L)
    by_cases hq : i' = i ∧ e' = e
    · rw [hq.1, hq.2, up2_same, up2_same]
      exact own_set_other hown (fun k hk e1 => own_ne hown hcs1 (by decide) k hk e1.symm) _
    · rw [up2_ne _ _ hq, up2_ne _ _ hq]
      refine own_set_other (own_stay (h.own i' e') hO ?_) h.nb _
      intro k hk hm
      exact hq (h.ap _ _ _ _ k hk (by simpa using hm))
theorem No.turn0 (h : No base w t b vs S) (hO : Only (vs i e).ownBlock.toList w w1) {L' : List Pk} (hown : w1.ownsRow base 88 5 (vs i e) L'.length (pcs L')) :
    No base w1 t b vs (S.row i e ⟨(S.R i e).T, L'⟩) := by
  have hb : ∀ cs, Has w b cs 101 → Has w1 b cs 101 := fun cs hc => hc.stay hO (by intro hh; exact h.nb b (by simpa using hh) rfl)
  refine ⟨h.bt, h.bb, (h.net.stay hO (by intro hh; exact h.nt t (by simpa using hh) rfl)), ?_, fun i' e' => ?_, h.ap⟩
  · refine cast ?_ (h.ln.move hb)
    congr 1
    funext i' e'
    show _ = (up2 S.R i e _ i' e').T
    unfold up2
    split
    · next hq => rw [hq.1, hq.2]
    · rfl
  · show w1.ownsRow base 88 5 (vs i' e') (up2 S.R i e _ i' e').L.length (pcs (up2 S.R i e _ i' e').L)
    by_cases hq : i' = i ∧ e' = e
    · rw [hq.1, hq.2, up2_same]
      exact hown
    · rw [up2_ne _ _ hq]
      refine own_stay (h.own i' e') hO ?_
      intro k hk hm
      exact hq (h.ap _ _ _ _ k hk (by simpa using hm))
end
end Go.Proofs.Ytmogacccffkkbaa.Nt
