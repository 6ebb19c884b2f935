/-
  What a call may have changed: only these blocks; cells of blocks; steps one behind the other in a region that draws its order; one operation's run.
  Conditions: as at each lemma.
-/
import Derived.Test.YtdifceikfnnfeaaDoorOr
import Derived.Test.YtdifceikfnnfeaaDoorRows
import Derived.WalkKit
import Derived.ProofKit
import Derived.OwnWalk
import Derived.Maps.OwnSet
namespace Go.Proofs.YtdifceikfnnfeaaDoor.Ba
open Go.ChangeShapes Go.WideShapes Go.ChangeAt Go.RowKit
set_option linter.unusedVariables false

theorem hidden {p : Prop} (h : p) : Hid p := h
theorem cell_lt {w : World} {a : Addr} {v : Value} (h : w.cell? a = some v) : a.block < w.heap.size := by
  rcases Nat.lt_or_ge a.block w.heap.size with h0 | h0
  · exact h0
  · simp [World.cell?, Array.getElem?_eq_none h0] at h
theorem heap_lt {w : World} {b : Nat} {o : Obj} (h : w.heap[b]? = some o) : b < w.heap.size := (Array.getElem?_eq_some_iff.1 h).1

/-- of what was there only these blocks may have turned -/
structure Only (F : List Nat) (w w' : World) : Prop where
  os : w'.os = w.os
  tape : w'.tape = w.tape
  output : w'.output = w.output
  size : w.heap.size ≤ w'.heap.size
  block : ∀ k, k < w.heap.size → k ∉ F → w'.heap[k]? = w.heap[k]?
theorem Only.refl (F : List Nat) (w : World) : Only F w w := ⟨rfl, rfl, rfl, Nat.le_refl _, fun _ _ _ => rfl⟩
/-- blocks of these, or new ones -/
def In (F G : List Nat) (w : World) : Prop := ∀ k ∈ G, k ∈ F ∨ w.heap.size ≤ k
theorem In.refl (F : List Nat) (w : World) : In F F w := fun k h => .inl h
theorem In.trans {F G H : List Nat} {w w' : World} (h : In F G w) (h' : In G H w') (hs : w.heap.size ≤ w'.heap.size) : In F H w := fun k hk => by
  rcases h' k hk with h1 | h1
  · exact h k h1
  · exact .inr (Nat.le_trans hs h1)
theorem In.earlier {F G : List Nat} {w w' : World} (h : In F G w') (hs : w.heap.size ≤ w'.heap.size) : In F G w := fun k hk => (h k hk).imp id (Nat.le_trans hs)
theorem Only.trans {F G : List Nat} {a b c : World} (h : Only F a b) (k : Only G b c) (hi : In F G a) : Only F a c :=
  ⟨k.os.trans h.os, k.tape.trans h.tape, k.output.trans h.output, Nat.le_trans h.size k.size, fun i hl hn => (k.block i (Nat.lt_of_lt_of_le hl h.size) fun hg => by
    rcases hi i hg with h1 | h1
    · exact hn h1
    · omega).trans (h.block i hl hn)⟩
theorem Only.then {F : List Nat} {a b c : World} (h : Only F a b) (k : Only F b c) : Only F a c := h.trans k (In.refl F a)
theorem Only.mono {F G : List Nat} {w w' : World} (h : Only F w w') (hs : ∀ k ∈ F, k ∈ G) : Only G w w' := ⟨h.os, h.tape, h.output, h.size, fun k hk hn => h.block k hk fun hf => hn (hs k hf)⟩
theorem Only.below {F : List Nat} {w w' : World} {n : Nat} (h : Only F w w') (hn : n ≤ w.heap.size) (hF : ∀ k ∈ F, n ≤ k) : Below n w w' :=
  ⟨h.os, h.tape, h.output, h.size, fun k hk => h.block k (by omega) fun hf => by have := hF k hf; omega⟩
theorem Only.of_below {F : List Nat} {w w' : World} (h : Below w.heap.size w w') : Only F w w' := ⟨h.os, h.tape, h.output, h.size, fun k hk _ => h.block k hk⟩
theorem Only.nil {w w' : World} (h : Only [] w w') : Below w.heap.size w w' := h.below (Nat.le_refl _) (by simp)
theorem Only.grown {F : List Nat} {w w' : World} {row : Option Nat} (h : w.grownBy w' row) (hr : ∀ k, row = some k → k ∈ F) : Only F w w' :=
  ⟨h.os, h.tape, h.output, h.size, fun k hk hn => h.block k hk fun e => hn (hr k e.symm)⟩
theorem Only.alloc (F : List Nat) (w : World) (o : Obj) : Only F w (w.alloc o) := Only.of_below ((Below.refl _ w).alloc (Nat.le_refl _) o)
theorem Only.setCell {F : List Nat} (w : World) {p : Addr} (hp : p.block ∈ F) (u : Value) : Only F w (w.setCell p u) :=
  ⟨rfl, rfl, rfl, by simp [World.setCell], fun k hk hn => Below.heap_setCell _ _ _ _ fun e => hn (e ▸ hp)⟩
theorem Only.drew {F : List Nat} {w w' : World} (h : Only F w w') : Only F w w'.drew := ⟨h.os, h.tape, h.output, h.size, h.block⟩
theorem Only.of_drew {F : List Nat} {w w' : World} (h : Only F w.drew w') : Only F w w' := ⟨h.os, h.tape, h.output, h.size, h.block⟩
/-- a block apart stays -/
theorem Only.stay {F : List Nat} {w w' : World} (h : Only F w w') {k : Nat} {o : Obj} (hk : w.heap[k]? = some o) (hn : k ∉ F) : w'.heap[k]? = some o := (h.block k (heap_lt hk) hn).trans hk
theorem Only.cell {F : List Nat} {w w' : World} (h : Only F w w') {p : Addr} {v : Value} (hc : w.cell? p = some v) (hn : p.block ∉ F) : w'.cell? p = some v :=
  (World.cell?_of_block (h.block p.block (cell_lt hc) hn)).trans hc

/-- a block that holds these cells -/
def Has (w : World) (b : Nat) (cs : Array Value) (t : TypeId) : Prop := w.heap[b]? = some (.cells cs t (0, 0))
theorem Has.lt {w : World} {b : Nat} {cs : Array Value} {t : TypeId} (h : Has w b cs t) : b < w.heap.size := heap_lt h
theorem Has.cell {w : World} {b : Nat} {cs : Array Value} {t : TypeId} (h : Has w b cs t) (i : Nat) {v : Value} (hi : cs[i]? = some v) : w.cell? ⟨b, i, none⟩ = some v := by
  have e : w.heap[b]? = some (.cells cs t (0, 0)) := h
  simp [World.cell?, e, hi]
theorem Has.frozen {w : World} {b : Nat} {cs : Array Value} {t : TypeId} (h : Has w b cs t) (i : Nat) : w.frozen? ⟨b, i, none⟩ = false := by
  have e : w.heap[b]? = some (.cells cs t (0, 0)) := h
  simp [World.frozen?, e]
theorem Has.new (w : World) (cs : Array Value) (t : TypeId) : Has (w.alloc (.cells cs t)) w.heap.size cs t := heap_alloc_new w _
theorem Has.set {w : World} {b : Nat} {cs : Array Value} {t : TypeId} (h : Has w b cs t) (i : Nat) (u : Value) : Has (w.setCell ⟨b, i, none⟩ u) b (cs.setIfInBounds i u) t := by
  have e : w.heap[b]? = some (.cells cs t (0, 0)) := h
  unfold Has
  simp only [World.setCell, Array.getElem?_modify, e]
  simp
theorem Has.set_other {w : World} {b : Nat} {cs : Array Value} {t : TypeId} (h : Has w b cs t) {p : Addr} (hp : b ≠ p.block) (u : Value) : Has (w.setCell p u) b cs t :=
  (Below.heap_setCell w p u b hp).trans h
theorem Has.stay {w w' : World} {b : Nat} {cs : Array Value} {t : TypeId} {F : List Nat} (h : Has w b cs t) (ho : Only F w w') (hn : b ∉ F) : Has w' b cs t := ho.stay h hn
theorem Has.later {w w' : World} {b : Nat} {cs : Array Value} {t : TypeId} (h : Has w b cs t) (hB : Below w.heap.size w w') : Has w' b cs t := (hB.block b h.lt).trans h
theorem Has.ne {w : World} {b b' : Nat} {cs cs' : Array Value} {t t' : TypeId} (h : Has w b cs t) (h' : Has w b' cs' t') (ht : t ≠ t') : b ≠ b' := fun e => by
  subst e
  have e1 : w.heap[b]? = some (.cells cs t (0, 0)) := h
  have e2 : w.heap[b]? = some (.cells cs' t' (0, 0)) := h'
  rw [e1] at e2
  cases e2
  exact ht rfl

/-- an owned row's block is no other's -/
theorem own_ne {w : World} {base E s n b : Nat} {v : Value} {xs : List Value} {cs : Array Value} {t : TypeId} (h : w.ownsRow base E s v n xs) (hb : Has w b cs t) (ht : t ≠ E) : ∀ k, v.ownBlock = some k → b ≠ k := by
  intro k hk e
  subst e
  rcases h.2 with ⟨rfl, _⟩ | ⟨g, cap, cur, rfl, _, hg, _⟩
  · cases hk
  · cases hk
    have e1 : w.heap[g]? = some (.cells cs t (0, 0)) := hb
    rw [e1] at hg
    cases hg
    exact ht rfl
theorem own_stay {w w' : World} {base E s n : Nat} {v : Value} {xs : List Value} {F : List Nat} (h : w.ownsRow base E s v n xs) (ho : Only F w w') (hn : ∀ k, v.ownBlock = some k → k ∉ F) : w'.ownsRow base E s v n xs := by
  refine ⟨h.1, ?_⟩
  rcases h.2 with h0 | ⟨g, cap, cur, rfl, hb, hg, r⟩
  · exact .inl h0
  · exact .inr ⟨g, cap, cur, rfl, hb, ho.stay hg (hn g rfl), r⟩
theorem own_len {w : World} {base e size n : Nat} {v : Value} {xs : List Value} (h : w.ownsRow base e size v n xs) : ∃ a cap, v = .slice a n cap := by
  rcases h.2 with ⟨rfl, rfl⟩ | ⟨g, cap, cur, rfl, _⟩
  · exact ⟨_, _, rfl⟩
  · exact ⟨_, _, rfl⟩
theorem own_some {w : World} {base E s n : Nat} {v : Value} {xs : List Value} (h : w.ownsRow base E s v n xs) (hn : 0 < n) : ∃ g cap, v = .slice (some ⟨g, 0, none⟩) n cap ∧ base ≤ g ∧ g < w.heap.size ∧ n ≤ cap ∧ cap ≤ maxLen := by
  rcases h.2 with ⟨_, h0⟩ | ⟨g, cap, cur, rfl, hb, hg, h1, h2, _⟩
  · omega
  · exact ⟨g, cap, rfl, hb, heap_lt hg, h1, h2⟩
theorem own_mono {w : World} {base base' E s n : Nat} {v : Value} {xs : List Value} (h : w.ownsRow base E s v n xs) (hb : ∀ k, v.ownBlock = some k → base' ≤ k) : w.ownsRow base' E s v n xs := by
  refine ⟨h.1, ?_⟩
  rcases h.2 with h0 | ⟨g, cap, cur, rfl, _, r⟩
  · exact .inl h0
  · exact .inr ⟨g, cap, cur, rfl, hb g rfl, r⟩

section
variable {P : Program} {w : World}
/-- where an append leaves the row: where it was, or in the next block -/
theorem append_where {base n m c : Nat} {t ty e : TypeId} {i : TypeInfo} {z : Value} (ht : P.underlying t = some (.slice e)) (hi : P.info? e = some i) (hz : i.zero = some z) {v : Value} {xs : List Value} (hown : w.ownsRow base e i.size v n xs)
    {ad : Addr} {news : List Value} (hl : news.length = m * i.size) (hnews : ∀ j u, news[j]? = some u → w.cell? (ad.add j) = some u) (h1 : ∀ u ∈ news, u.oneCell' = true) (hm : 0 < m ∨ v.ownBlock ≠ none) (h63 : n + m ≤ maxLen) (hbytes : (n + m) * i.bytes ≤ 140737488355328)
    {v' : Value} {w' : World} (hr : (Builtin.append_ #[t, t] ty #[v, .slice (some ad) m c]).run P w = .ok v' w') : v'.ownBlock = v.ownBlock ∨ v'.ownBlock = some w.heap.size := by
  have h63' : n + m ≤ 9223372036854775807 := by simp only [maxLen] at h63; omega
  rcases hown.2 with ⟨rfl, rfl⟩ | ⟨g, cap, cur, rfl, hbg, hg, hnc, hcm, hcs, htake⟩
  · have hb := hbytes
    have hm : 0 < m := hm.resolve_right (by simp [Value.ownBlock])
    rw [Nat.zero_add] at hb
    rw [run_append_nil (P := P) w t ty e i z ht hi hz ad m c news hl hnews hm (by omega) (by omega)] at hr
    cases hr
    exact .inr rfl
  · by_cases hroom : n + m ≤ cap
    · rw [run_append_room (P := P) w t ty e i ht hi g n cap cur hg ad m c news hl hnews h1 hroom (by rw [hl, hcs, ← Nat.add_mul]; exact Nat.mul_le_mul_right _ hroom)] at hr
      cases hr
      exact .inl rfl
    · rw [run_append_grow (P := P) w t ty e i z ht hi hz ⟨g, 0, none⟩ n cap xs hown.1 (hown.cells (g := g) rfl) ad m c news hl hnews (by omega) (by omega) (growslice_fits (by omega) hbytes)] at hr
      cases hr
      exact .inr rfl
/-- an append to a row of one's own -/
theorem append_at {base n m c size bytes : Nat} {t ty e : TypeId} {z : Value} (ht : P.underlying t = some (.slice e)) (hinfo : (P.info? e).map (fun i => (i.zero, i.size, i.bytes)) = some (some z, size, bytes)) (hzs : z.cells.size = size) (hsz : 0 < size) {v : Value} {xs : List Value} (hown : w.ownsRow base e size v n xs)
    {ad : Addr} {news : List Value} (hl : news.length = m * size) (hnews : ∀ j u, news[j]? = some u → w.cell? (ad.add j) = some u) (h1 : ∀ u ∈ news, u.oneCell' = true) (hm : 0 < m ∨ v.ownBlock ≠ none) (h63 : n + m ≤ maxLen) (hbytes : (n + m) * bytes ≤ 140737488355328) (hbase : base ≤ w.heap.size) :
    ∃ v' w', (Builtin.append_ #[t, t] ty #[v, .slice (some ad) m c]).run P w = .ok v' w' ∧ w'.ownsRow base e size v' (n + m) (xs ++ news) ∧ w.grownBy w' v.ownBlock ∧ (v'.ownBlock = v.ownBlock ∨ v'.ownBlock = some w.heap.size) := by
  obtain ⟨i, hi, hz, rfl, rfl⟩ := info_parts hinfo
  obtain ⟨v', w', hr, h2, h3, _⟩ := run_append_own (P := P) w base t ty e i z i.size i.bytes ht hi hz rfl rfl hzs hsz v n xs hown ad m c news hl hnews h1 h63 hbytes hbase
  exact ⟨v', w', hr, h2, h3, append_where ht hi hz hown hl hnews h1 hm h63 hbytes hr⟩
end
end Go.Proofs.YtdifceikfnnfeaaDoor.Ba
