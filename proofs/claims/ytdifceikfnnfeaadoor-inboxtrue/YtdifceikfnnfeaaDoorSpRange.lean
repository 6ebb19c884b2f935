/-
  A loop that ranges over the blocks of a set (a method's value that is bound to the set): from an invariant of the loop's own cells to what lies behind the loop.
  Conditions: the body keeps the invariant, round by round, or leaves the loop by a jump.
-/
import Derived.Test.YtdifceikfnnfeaaDoorSpIter
namespace Go.Proofs.YtdifceikfnnfeaaDoor.Sp
open Go.RowKit Go.Shelf
set_option linter.unusedVariables false

/-- the loop's own book-keeping: a block that is no cells, laid since the loop began, may have turned; new ones may have come -/
def Calm (B : Nat) (W W' : World) : Prop := ∃ row, W.grownBy W' row ∧ ∀ r, row = some r → B ≤ r ∧ ∃ o : Obj, W.heap[r]? = some o ∧ o.isCells = false
theorem Calm.put {B l : Nat} {W : World} {o : Obj} (o' : Obj) (hB : B ≤ l) (hl : W.heap[l]? = some o) (ho : o.isCells = false) : Calm B W (W.putObj l o') :=
  ⟨some l, grownBy_putObj' W l o', fun r e => by cases e; exact ⟨hB, o, hl, ho⟩⟩
theorem Calm.new (B : Nat) (W : World) (o : Obj) : Calm B W (W.alloc o) := ⟨none, World.grownBy_alloc W o none, fun r e => by cases e⟩
theorem Calm.same {B : Nat} {W W' : World} (h : Calm B W W') {k : Nat} {o : Obj} (hk : W.heap[k]? = some o) (hkl : k < B ∨ o.isCells = true) : W'.heap[k]? = some o := by
  obtain ⟨row, hg, hr⟩ := h
  refine (hg.block k (Array.getElem?_eq_some_iff.1 hk).1 fun e => ?_).trans hk
  obtain ⟨h1, o', h2, h3⟩ := hr k e.symm
  rw [hk] at h2; cases h2
  rcases hkl with h | h
  · omega
  · rw [h3] at h; cases h
theorem Calm.below {B n : Nat} {w W W' : World} (h : Calm B W W') (hn : n ≤ B) (hB : Below n w W) (hs : n ≤ w.heap.size) : Below n w W' := by
  obtain ⟨row, hg, hr⟩ := h
  exact hB.grown hg (Nat.le_trans hs hB.size) fun k e => Nat.le_trans hn (hr k e).1

/-- how a round may end -/
def roundEnd (B n₀ : Nat) (I : Nat → World → Prop) (Ix : Nat → World → Prop) (k : Nat) (W : World) : Exit → Act → World → Prop
  | .normal, _, W' => KeepsFrom B W W' ∧ Below n₀ W W' ∧ I (k + 1) W'
  | .exit id, _, W' => KeepsFrom B W W' ∧ Ix id W'
  | _, _, _ => False

theorem range_blocks {g : Operand} {p0 : Tmp} {assign body : Code} {Q : Exit → Act → World → Prop} {a : Act} {w : World} {p : Option Addr} {bs : List (Nat × Nat)} {n₀ : Nat}
    (hg : a.eval g = .func (.func 65) #[.pointer p] #[]) (hH : Hands n₀ p bs w) (hn : n₀ ≤ w.heap.size)
    (I : Nat → World → Prop) (Ix : Nat → World → Prop) (hI : ∀ k W W', I k W → Calm w.heap.size W W' → I k W') (hIx : ∀ k W W', Ix k W → Calm w.heap.size W W' → Ix k W') (h0 : I 0 w)
    (Ax : Nat → Act → World → Prop) (hAx : ∀ k a' W W', Ax k a' W → Calm w.heap.size W W' → Ax k a' W')
    (hassign : ∀ l k gp W K, bs[k]? = some gp → I k W → (∀ a' W', KeepsFrom w.heap.size W W' → Below n₀ W W' → I k W' → Ax k a' W' → K a' W') →
      assign.wpIn (Fence.wide.inRound l) 8 Tryd.prog (Exit.then K (fun _ _ _ => False)) { tmps := a.tmps.setIfInBounds p0 (gapV gp), defers := [] } W)
    (hbody : ∀ l k gp a' W, bs[k]? = some gp → I k W → Ax k a' W → body.wpIn (Fence.wide.inRound l) 8 Tryd.prog (roundEnd w.heap.size n₀ I Ix k W) a' W)
    (hdone : ∀ D W, w.heap.size ≤ D → I bs.length W → W.heap[D]? = some (.deferred (some [])) → Q .normal { a with defers := { target := .collected D, args := #[] } :: a.defers } W)
    (hstop : ∀ D id W, w.heap.size ≤ D → Ix id W → W.heap[D]? = some (.deferred (some [])) → (Code.exit id).wpIn Fence.wide 10 Tryd.prog Q { a with defers := { target := .collected D, args := #[] } :: a.defers } W) :
    (Code.rangeFunc g #[p0] assign body).wpIn Fence.wide 10 Tryd.prog Q a w := by
  refine wpIn_rangeFunc fun fn hfn => ?_
  -- the record of the loop lies at l, its block of deferred calls ahead of it
  let l := w.heap.size + 1
  let rec_ : LoopState → Option Code → Obj := fun st pe => .loop { state := st, pending := pe, fn, tmps := a.tmps, params := #[p0], assign, body, defers := w.heap.size }
  let W1 := (w.alloc (.deferred (some []))).alloc (rec_ .ready none)
  have hL : W1.heap[l]? = some (rec_ .ready none) := by
    have := World.alloc_heap_new (w.alloc (.deferred (some []))) (rec_ .ready none)
    rwa [World.size_alloc] at this
  have hD : W1.heap[w.heap.size]? = some (.deferred (some [])) := (Below.heap_alloc _ _ _ (by simp)).trans (World.alloc_heap_new w _)
  have hstart : I 0 W1 := hI 0 _ _ (hI 0 _ _ h0 (Calm.new _ _ _)) (Calm.new _ _ _)
  have hB1 : Below n₀ w W1 := ((Below.refl _ w).alloc hn _).alloc (by simp; omega) _
  refine ⟨l, [{ target := .collected w.heap.size, args := #[] }], W1, { target := .fn (.func 65) #[], args := #[.pointer p, .func (.yield l) #[] #[]] }, W1, 65, #[.pointer p, .func (.yield l) #[] #[]], W1, run_enterLoop_outer _ _ _ _ _, ?_, fun _ _ => trivial, ?_, fun _ => by decide, ?_⟩
  · simp only [resolve, hg]
    simp [go_sem]
  · simp [invoke, go_sem]
  -- book-keeping beside the invariant
  have keep : ∀ {W W' : World}, W.grownBy W' none → ∀ {k : Nat} {o : Obj}, W.heap[k]? = some o → W'.heap[k]? = some o := fun hg k o hk => (hg.block k (Array.getElem?_eq_some_iff.1 hk).1 (by simp)).trans hk
  refine (hH l (fun k W => I k W ∧ W.heap[l]? = some (rec_ .ready none) ∧ W.heap[w.heap.size]? = some (.deferred (some [])))
    (fun W => ∃ id, Ix id W ∧ W.heap[l]? = some (rec_ .done (some (.exit id))) ∧ W.heap[w.heap.size]? = some (.deferred (some [])))
    W1 hB1 (fun k W W' h hg => ⟨hI k W W' h.1 ⟨none, hg, fun r e => by cases e⟩, keep hg h.2.1, keep hg h.2.2⟩) ?_ ⟨hstart, hL, hD⟩).mono ?_
  · rintro k gp W hk ⟨hi, hl, hd⟩
    have hy : (Instr.yield l #[gapV gp]).run Tryd.prog W = .ok (.round l fn (a.tmps.setIfInBounds p0 (gapV gp)) assign body) W := by
      rw [run_yield hl rfl]; simp
    refine ⟨fn, _, assign, body, hy, roundIn_of_wpIn hfn (hassign l k gp W _ hk hi fun a' Wa hka hba hia hax => ?_)⟩
    have hla := hka.same l _ (by omega) hl rfl
    have hda := hka.same w.heap.size _ (Nat.le_refl _) hd rfl
    refine ⟨_, run_beginRound hla rfl, ?_⟩
    have hlt := (Array.getElem?_eq_some_iff.1 hla).1
    have c2 : Calm w.heap.size Wa (Wa.putObj l (rec_ .busy none)) := Calm.put _ (by omega) hla rfl
    have hl2 : (Wa.putObj l (rec_ .busy none)).heap[l]? = some (rec_ .busy none) := World.putObj_heap_same hlt
    have hd2 : (Wa.putObj l (rec_ .busy none)).heap[w.heap.size]? = some (.deferred (some [])) := (World.putObj_heap_other (by omega)).trans hda
    have hb2 : Below n₀ W (Wa.putObj l (rec_ .busy none)) := hba.trans (belowK_b hn Wa l _ _ (by omega) hla rfl rfl)
    refine wpIn_mono (hbody l k gp a' _ hk (hI k _ _ hia c2) (hAx k a' _ _ hax c2)) ?_
    have fin : ∀ (jump : Option Code) (W3 : World), KeepsFrom w.heap.size (Wa.putObj l (rec_ .busy none)) W3 →
        (Instr.endRound l jump).run Tryd.prog W3 = .ok (.bool jump.isNone) (W3.putObj l (rec_ (if jump.isNone then .ready else .done) jump)) ∧ Calm w.heap.size W3 (W3.putObj l (rec_ (if jump.isNone then .ready else .done) jump)) ∧
        (W3.putObj l (rec_ (if jump.isNone then .ready else .done) jump)).heap[l]? = some (rec_ (if jump.isNone then .ready else .done) jump) ∧ (W3.putObj l (rec_ (if jump.isNone then .ready else .done) jump)).heap[w.heap.size]? = some (.deferred (some [])) ∧
        Below n₀ W3 (W3.putObj l (rec_ (if jump.isNone then .ready else .done) jump)) := fun jump W3 hk3 => by
      have hl3 := hk3.same l _ (by omega) hl2 rfl
      exact ⟨run_endRound jump hl3, Calm.put _ (by omega) hl3 rfl, World.putObj_heap_same (Array.getElem?_eq_some_iff.1 hl3).1, (World.putObj_heap_other (by omega)).trans (hk3.same _ _ (Nat.le_refl _) hd2 rfl), belowK_b hn W3 l _ _ (by omega) hl3 rfl rfl⟩
    rintro e a3 W3 hp
    cases e with
    | normal =>
      obtain ⟨hk3, hb3, hi3⟩ := hp
      obtain ⟨hr, hc, hl4, hd4, hb4⟩ := fin none W3 hk3
      exact ⟨_, _, hr, .inl ⟨rfl, ⟨hI _ _ _ hi3 hc, hl4, hd4⟩, (hb2.trans hb3).trans hb4⟩⟩
    | exit id =>
      obtain ⟨hk3, hi3⟩ := hp
      obtain ⟨hr, hc, hl4, hd4, hb4⟩ := fin (some (.exit id)) W3 hk3
      exact ⟨_, _, hr, .inr ⟨rfl, id, hIx _ _ _ hi3 hc, hl4, hd4⟩⟩
    | ret => exact hp.elim
    | goto t => exact hp.elim
    | panic ch => exact hp.elim
    | outgrown => exact hp.elim
  · rintro e W2 ⟨⟨v, rfl⟩, (⟨hi, hl, hd⟩ | ⟨id, hi, hl, hd⟩)⟩
    · exact ⟨none, _, run_endLoop hl (fun h => by cases h), hdone _ _ (Nat.le_refl _) (hI _ _ _ hi (Calm.put _ (by omega) hl rfl)) ((World.putObj_heap_other (by omega)).trans hd)⟩
    · exact ⟨some (.exit id), _, run_endLoop hl (fun h => by cases h), hstop _ _ _ (Nat.le_refl _) (hIx _ _ _ hi (Calm.put _ (by omega) hl rfl)) ((World.putObj_heap_other (by omega)).trans hd)⟩
end Go.Proofs.YtdifceikfnnfeaaDoor.Sp
