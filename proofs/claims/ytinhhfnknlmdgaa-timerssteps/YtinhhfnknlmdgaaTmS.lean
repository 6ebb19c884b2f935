/-
  Timers of a row in order: slices.Values, slices.Collect, slices.SortFunc and slices.SortedFunc at api.Due by the heap's order; All.
  Conditions: the row can be read, at most 65536 timers.
-/
import Derived.Test.YtinhhfnknlmdgaaTmI
import Derived.Test.YtinhhfnknlmdgaaTmLay
import Derived.Shelf.SlSortCmp.WholeK
import Derived.Shelf.SlSortCmp.NoneTotal
import Derived.RangeFuncNested
import Derived.RangeFuncBound
import Derived.RangeFuncCalls
import Derived.RangeFuncLeaves
import Derived.RangeFuncBox
import Derived.Shelf.Abstract
import Derived.Shelf.RegionOpen
import Derived.OwnWalkIn
import Derived.TacticsInMore
import Derived.LoopNIn
import Derived.LoopIn
import Derived.Deep.QuietTactic
import Derived.BigQuiet
import Derived.Maps.Range
namespace Go.Proofs.Ytinhhfnknlmdgaa.Tm
open Go.RowKit Go.Shelf Go.Lib Go.Sort Go.ChangeShapes Go.WideShapes Go.ChangeAt
open Ba (hidden Only In Has own_ne own_stay own_len own_some own_mono cell_lt heap_lt)
set_option linter.unusedVariables false
attribute [local go_sem] Oper.semAt_some

/-- the loop's own book-keeping: a block that is no cells, laid since the loop began, may have turned; new ones may have come -/
def Calm (B : Nat) (W W' : World) : Prop := ∃ row, W.grownBy W' row ∧ ∀ r, row = some r → B ≤ r ∧ ∃ o : Obj, W.heap[r]? = some o ∧ o.isCells = false
theorem Calm.put {B l : Nat} {W : World} {o : Obj} (o' : Obj) (hB : B ≤ l) (hl : W.heap[l]? = some o) (ho : o.isCells = false) : Calm B W (W.putObj l o') :=
  ⟨some l, grownBy_putObj' W l o', fun r e => by cases e; exact ⟨hB, o, hl, ho⟩⟩
theorem Calm.new (B : Nat) (W : World) (o : Obj) : Calm B W (W.alloc o) := ⟨none, World.grownBy_alloc W o none, fun r e => by cases e⟩
theorem Calm.same {B : Nat} {W W' : World} (h : Calm B W W') {k : Nat} {o : Obj} (hk : W.heap[k]? = some o) (hkl : k < B ∨ o.isCells = true) : W'.heap[k]? = some o := by
  obtain ⟨row, hg, hr⟩ := h
  refine (hg.block k (Array.getElem?_eq_some_iff.1 hk).1 fun e => ?_).trans hk
  obtain ⟨h1, o', h2, h3⟩ := hr k e.symm
  rw [hk] at h2; cases h2
  rcases hkl with h | h
  · omega
  · rw [h3] at h; cases h
theorem Calm.below {B n : Nat} {w W W' : World} (h : Calm B W W') (hn : n ≤ B) (hB : Below n w W) (hs : n ≤ w.heap.size) : Below n w W' := by
  obtain ⟨row, hg, hr⟩ := h
  exact hB.grown hg (Nat.le_trans hs hB.size) fun k e => Nat.le_trans hn (hr k e).1

/-- how a round may end -/
def roundEnd (B n₀ : Nat) (I : Nat → World → Prop) (Ix : Nat → World → Prop) (k : Nat) (W : World) : Exit → Act → World → Prop
  | .normal, _, W' => KeepsFrom B W W' ∧ Below n₀ W W' ∧ I (k + 1) W'
  | .exit id, _, W' => KeepsFrom B W W' ∧ Ix id W'
  | _, _, _ => False

/-- what lay below, and whatever holds no cells of that kind, lies as it lay -/
structure Fr (base : Nat) (e : TypeId) (w w' : World) : Prop where
  below : Below base w w'
  other : ∀ (k : Nat) (o : Obj), w.heap[k]? = some o → (∀ cur f, o ≠ .cells cur e f) → w'.heap[k]? = some o
theorem Fr.refl (base : Nat) (e : TypeId) (w : World) : Fr base e w w := ⟨Below.refl _ _, fun _ _ h _ => h⟩
theorem Fr.trans {base : Nat} {e : TypeId} {w w1 w2 : World} (h : Fr base e w w1) (k : Fr base e w1 w2) : Fr base e w w2 := ⟨h.below.trans k.below, fun i o h1 h2 => k.other i o (h.other i o h1 h2) h2⟩
theorem Fr.drew {base : Nat} {e : TypeId} {w w1 : World} (h : Fr base e w w1) : Fr base e w w1.drew := ⟨h.below.drew, h.other⟩
theorem Fr.alloc {base : Nat} {e : TypeId} (w : World) (hb : base ≤ w.heap.size) (o : Obj) : Fr base e w (w.alloc o) :=
  ⟨(Below.refl _ w).alloc hb o, fun k x hk _ => (Below.heap_alloc w o k (Array.getElem?_eq_some_iff.1 hk).1).trans hk⟩
theorem Fr.grown {base e size n : Nat} {v : Value} {xs : List Value} {w w' : World} (hr : w.ownsRow base e size v n xs) (hb : base ≤ w.heap.size) (hg : w.grownBy w' v.ownBlock) : Fr base e w w' := by
  refine ⟨(Below.refl _ w).grown hg hb fun k hk => (hr.lt k hk).1, fun k o hk ho => (hg.block k (Array.getElem?_eq_some_iff.1 hk).1 fun hb => ?_).trans hk⟩
  rcases hr.2 with ⟨rfl, _⟩ | ⟨g, cap, cur, rfl, _, hg, _⟩
  · cases hb
  · simp only [Value.ownBlock, Option.some.injEq] at hb
    subst hb
    rw [hk] at hg
    cases hg
    exact ho _ _ rfl
theorem row_calm {B base e size n : Nat} {W W' : World} {v : Value} {xs : List Value} (h : W.ownsRow base e size v n xs) (hc : Calm B W W') : W'.ownsRow base e size v n xs := by
  refine ⟨h.1, ?_⟩
  rcases h.2 with hn | ⟨g, cap, cur, rfl, hb, hgg, rest⟩
  · exact .inl hn
  · exact .inr ⟨g, cap, cur, rfl, hb, hc.same hgg (.inr rfl), rest⟩
theorem boxed_calm {B b : Nat} {W W' : World} {t : TypeId} {v : Value} (h : Boxed W b t v) (hc : Calm B W W') : Boxed W' b t v := hc.same h (.inr rfl)

/-- the loop's variable -/
def DueBox (W : World) (Bx : Nat) (gp : D) : Prop := W.heap[Bx]? = some (.cells #[.int .i64 gp.1, .int .i64 gp.2] 43 (0, 0))
theorem DueBox.calm {B Bx : Nat} {W W' : World} {gp : D} (h : DueBox W Bx gp) (hc : Calm B W W') : DueBox W' Bx gp := hc.same h (.inr rfl)
theorem DueBox.new (W : World) (gp : D) : DueBox (W.alloc (.cells #[.int .i64 gp.1, .int .i64 gp.2] 43)) W.heap.size gp := World.alloc_heap_new W _
theorem DueBox.start {W : World} {Bx : Nat} {gp : D} (h : DueBox W Bx gp) : W.cell? ⟨Bx, 0, none⟩ = some (.int .i64 gp.1) := by simp [World.cell?, show W.heap[Bx]? = _ from h]
theorem DueBox.stop {W : World} {Bx : Nat} {gp : D} (h : DueBox W Bx gp) : W.cell? ⟨Bx, 1, none⟩ = some (.int .i64 gp.2) := by simp [World.cell?, show W.heap[Bx]? = _ from h]
theorem keeps_new (B : Nat) (W : World) (o : Obj) : KeepsFrom B W (W.alloc o) := (KeepsOthers.alloc W o).from B
theorem Fr.keeps {base e : Nat} {W W' : World} (h : Fr base e W W') (B : Nat) : KeepsFrom B W W' := ⟨h.below.size, fun k o _ hk ho => h.other k o hk (fun cur f hh => by rw [hh] at ho; cases ho)⟩
theorem Fr.boxed {base e b : Nat} {W W' : World} {t : TypeId} {v : Value} (h : Fr base e W W') (ht : t ≠ e) (hb : Boxed W b t v) : Boxed W' b t v := h.other b _ hb (fun cur f hh => by cases hh; exact ht rfl)
theorem dc_snoc {bs : List (D)} {k : Nat} {g : D} (h : bs[k]? = some g) : (bs.take (k + 1)).flatMap dc = (bs.take k).flatMap dc ++ dc g := by
  rw [List.take_add_one, h]; simp [List.flatMap_append]

theorem cells_new2 (w : World) (u v : Value) (t : TypeId) : ∀ j x, [u, v][j]? = some x → (w.alloc (.cells #[u, v] t)).cell? ((⟨w.heap.size, 0, none⟩ : Addr).add j) = some x := by
  intro j x hj
  have h : (w.alloc (.cells #[u, v] t)).heap[w.heap.size]? = some (.cells #[u, v] t) := World.alloc_heap_new w _
  match j, hj with
  | 0, hj => cases hj; show (w.alloc (.cells #[u, v] t)).cell? ⟨w.heap.size, 0, none⟩ = _; simp only [World.cell?, h]; rfl
  | 1, hj => cases hj; show (w.alloc (.cells #[u, v] t)).cell? ⟨w.heap.size, 1, none⟩ = _; simp only [World.cell?, h]; rfl

theorem values_in (l n₀ bx : Nat) (J : Nat → World → Prop) (Jx : World → Prop) {a : Option Addr} {len cap : Nat} {X : List (D)}
    (hJ : ∀ k W W', J k W → W.grownBy W' none → J k W')
    (hY : ∀ k g W1, X[k]? = some g → J k W1 → YieldAt Fence.wide 8 Try.prog l #[dv g] W1 fun e W' =>
      (e = .returned (.bool true) ∧ J (k + 1) W' ∧ Below n₀ W1 W') ∨ (e = .returned (.bool false) ∧ Jx W'))
    (W : World) (hbx : W.cell? ⟨bx, 0, none⟩ = some (.slice a len cap)) (hX : X.length = len) (hlim : len ≤ 281474976710656) (hn : n₀ ≤ W.heap.size)
    (hor : len = 0 ∨ ∃ b off, a = some ⟨b, off, none⟩ ∧ b < n₀ ∧ ∀ j, j < len → W.cell? ⟨b, off + j * 2, none⟩ = some (.int .i64 (at_ X j).1) ∧ W.cell? ⟨b, off + j * 2 + 1, none⟩ = some (.int .i64 (at_ X j).2)) (h0 : J 0 W) :
    CallsIn Fence.wide 9 Try.prog 48 #[.func (.yield l) #[] #[], .pointer (some ⟨bx, 0, none⟩)] W fun e W' => (∃ v, e = .returned v) ∧ (J X.length W' ∨ Jx W') := by
  have HOR : Hid _ := hor
  clear hor
  refine callsIn_wide.2 ?_
  go_enter Try.func48, Try.ntmps48
  go_wp2_with fail
  go_loopw [7] (fun i wr => ∃ q : Int, 0 ≤ q ∧ q ≤ (len : Int) ∧ i = .int .i64 q ∧ J q.toNat wr ∧ Below n₀ W wr) (fun i wr => len - (intOf i).toNat)
  case atStart => exact ⟨0, by omega, by omega, rfl, h0, Below.refl _ _⟩
  case round =>
    obtain ⟨q, hq0, hq, rfl, hJs, hB⟩ := hrel
    by_cases hlt : q < (len : Int)
    · obtain ⟨b, off, rfl, hb, hc⟩ := HOR.out.resolve_left (by omega)
      have k0 := (hB.cell (p := ⟨b, off + q.toNat * 2, none⟩) hb).trans (hc q.toNat (by omega)).1
      have k1 := (hB.cell (p := ⟨b, off + q.toNat * 2 + 1, none⟩) hb).trans (hc q.toNat (by omega)).2
      have hXk : X[q.toNat]? = some (at_ X q.toNat) := by
        exact at_get (by omega)
      clear hc
      generalize at_ X q.toNat = gp at k0 k1 hXk
      have hJ2 := hJ q.toNat wr (wr.alloc (Obj.cells #[Value.int IntKind.i64 gp.1, Value.int IntKind.i64 gp.2] 43)) hJs (World.grownBy_alloc _ _ none)
      have hB2 : Below n₀ W (wr.alloc (Obj.cells #[Value.int IntKind.i64 gp.1, Value.int IntKind.i64 gp.2] 43)) := hB.alloc (Nat.le_trans hn hB.size) _
      obtain ⟨fn, tmps, assign, body, hy, hRd⟩ := hY q.toNat gp _ hXk hJ2
      unfold dv at hy
      have HXk : Hid _ := hXk
      clear hXk
      refine (wpIn_wide (n := 9)).1 ?_
      gi_wp2_with fail
      refine hRd.mono ?_
      rintro e w4 (⟨rfl, hJ4, hB4⟩ | ⟨rfl, hx4⟩)
      · gi_wp2
        go_roundw
        case rel => exact ⟨q + 1, by omega, by omega, rfl, by rw [show (q + 1).toNat = q.toNat + 1 by omega]; exact hJ4, hB2.trans hB4⟩
        case measure => simp only [intOf]; omega
      · gi_wp2
        refine bodyPost_ret (results_none rfl _ _ _) rfl ?_
        exact ⟨⟨_, rfl⟩, .inr hx4⟩
    · have hqe : Hid (q.toNat = len) := by unfold Hid; omega
      go_wp2
      go_end0
      exact ⟨⟨_, rfl⟩, .inl (hqe.out ▸ hJs)⟩

/-- what a loop over the row's values is handed -/
def HandsV (n₀ : Nat) (p : Option Addr) (bs : List (D)) (w : World) : Prop :=
  ∀ (l : Nat) (J : Nat → World → Prop) (Jx : World → Prop) (W : World), Below n₀ w W →
    (∀ k W W', J k W → W.grownBy W' none → J k W') →
    (∀ k g W1, bs[k]? = some g → J k W1 → YieldAt Fence.wide 8 Try.prog l #[dv g] W1 fun e W' =>
      (e = .returned (.bool true) ∧ J (k + 1) W' ∧ Below n₀ W1 W') ∨ (e = .returned (.bool false) ∧ Jx W')) → J 0 W →
    CallsIn Fence.wide 9 Try.prog 48 #[.func (.yield l) #[] #[], .pointer p] W fun e W' => (∃ v, e = .returned v) ∧ (J bs.length W' ∨ Jx W')

theorem range_values {g : Operand} {p0 : Tmp} {assign body : Code} {Q : Exit → Act → World → Prop} {a : Act} {w : World} {p : Option Addr} {bs : List (D)} {n₀ : Nat}
    (hg : a.eval g = .func (.func 48) #[] #[.pointer p]) (hH : HandsV n₀ p bs w) (hn : n₀ ≤ w.heap.size)
    (I : Nat → World → Prop) (Ix : Nat → World → Prop) (hI : ∀ k W W', I k W → Calm w.heap.size W W' → I k W') (hIx : ∀ k W W', Ix k W → Calm w.heap.size W W' → Ix k W') (h0 : I 0 w)
    (Ax : Nat → Act → World → Prop) (hAx : ∀ k a' W W', Ax k a' W → Calm w.heap.size W W' → Ax k a' W')
    (hassign : ∀ l k gp W K, bs[k]? = some gp → I k W → (∀ a' W', KeepsFrom w.heap.size W W' → Below n₀ W W' → I k W' → Ax k a' W' → K a' W') →
      assign.wpIn (Fence.wide.inRound l) 8 Try.prog (Exit.then K (fun _ _ _ => False)) { tmps := a.tmps.setIfInBounds p0 (dv gp), defers := [] } W)
    (hbody : ∀ l k gp a' W, bs[k]? = some gp → I k W → Ax k a' W → body.wpIn (Fence.wide.inRound l) 8 Try.prog (roundEnd w.heap.size n₀ I Ix k W) a' W)
    (hdone : ∀ D W, w.heap.size ≤ D → I bs.length W → W.heap[D]? = some (.deferred (some [])) → Q .normal { a with defers := { target := .collected D, args := #[] } :: a.defers } W)
    (hstop : ∀ D id W, w.heap.size ≤ D → Ix id W → W.heap[D]? = some (.deferred (some [])) → (Code.exit id).wpIn Fence.wide 10 Try.prog Q { a with defers := { target := .collected D, args := #[] } :: a.defers } W) :
    (Code.rangeFunc g #[p0] assign body).wpIn Fence.wide 10 Try.prog Q a w := by
  refine wpIn_rangeFunc fun fn hfn => ?_
  -- the record of the loop lies at l, its block of deferred calls ahead of it
  let l := w.heap.size + 1
  let rec_ : LoopState → Option Code → Obj := fun st pe => .loop { state := st, pending := pe, fn, tmps := a.tmps, params := #[p0], assign, body, defers := w.heap.size }
  let W1 := (w.alloc (.deferred (some []))).alloc (rec_ .ready none)
  have hL : W1.heap[l]? = some (rec_ .ready none) := by
    have := World.alloc_heap_new (w.alloc (.deferred (some []))) (rec_ .ready none)
    rwa [World.size_alloc] at this
  have hD : W1.heap[w.heap.size]? = some (.deferred (some [])) := (Below.heap_alloc _ _ _ (by simp)).trans (World.alloc_heap_new w _)
  have hstart : I 0 W1 := hI 0 _ _ (hI 0 _ _ h0 (Calm.new _ _ _)) (Calm.new _ _ _)
  have hB1 : Below n₀ w W1 := ((Below.refl _ w).alloc hn _).alloc (by simp; omega) _
  refine ⟨l, [{ target := .collected w.heap.size, args := #[] }], W1, { target := .fn (.func 48) #[.pointer p], args := #[.func (.yield l) #[] #[]] }, W1, 48, #[.func (.yield l) #[] #[], .pointer p], W1, run_enterLoop_outer _ _ _ _ _, ?_, fun _ _ => trivial, ?_, fun _ => by decide, ?_⟩
  · simp only [resolve, hg]
    simp [go_sem]
  · simp [invoke, go_sem]
  -- book-keeping beside the invariant
  have keep : ∀ {W W' : World}, W.grownBy W' none → ∀ {k : Nat} {o : Obj}, W.heap[k]? = some o → W'.heap[k]? = some o := fun hg k o hk => (hg.block k (Array.getElem?_eq_some_iff.1 hk).1 (by simp)).trans hk
  refine (hH l (fun k W => I k W ∧ W.heap[l]? = some (rec_ .ready none) ∧ W.heap[w.heap.size]? = some (.deferred (some [])))
    (fun W => ∃ id, Ix id W ∧ W.heap[l]? = some (rec_ .done (some (.exit id))) ∧ W.heap[w.heap.size]? = some (.deferred (some [])))
    W1 hB1 (fun k W W' h hg => ⟨hI k W W' h.1 ⟨none, hg, fun r e => by cases e⟩, keep hg h.2.1, keep hg h.2.2⟩) ?_ ⟨hstart, hL, hD⟩).mono ?_
  · rintro k gp W hk ⟨hi, hl, hd⟩
    have hy : (Instr.yield l #[dv gp]).run Try.prog W = .ok (.round l fn (a.tmps.setIfInBounds p0 (dv gp)) assign body) W := by
      rw [run_yield hl rfl]; simp
    refine ⟨fn, _, assign, body, hy, roundIn_of_wpIn hfn (hassign l k gp W _ hk hi fun a' Wa hka hba hia hax => ?_)⟩
    have hla := hka.same l _ (by omega) hl rfl
    have hda := hka.same w.heap.size _ (Nat.le_refl _) hd rfl
    refine ⟨_, run_beginRound hla rfl, ?_⟩
    have hlt := (Array.getElem?_eq_some_iff.1 hla).1
    have c2 : Calm w.heap.size Wa (Wa.putObj l (rec_ .busy none)) := Calm.put _ (by omega) hla rfl
    have hl2 : (Wa.putObj l (rec_ .busy none)).heap[l]? = some (rec_ .busy none) := World.putObj_heap_same hlt
    have hd2 : (Wa.putObj l (rec_ .busy none)).heap[w.heap.size]? = some (.deferred (some [])) := (World.putObj_heap_other (by omega)).trans hda
    have hb2 : Below n₀ W (Wa.putObj l (rec_ .busy none)) := hba.trans (belowK_b hn Wa l _ _ (by omega) hla rfl rfl)
    refine wpIn_mono (hbody l k gp a' _ hk (hI k _ _ hia c2) (hAx k a' _ _ hax c2)) ?_
    have fin : ∀ (jump : Option Code) (W3 : World), KeepsFrom w.heap.size (Wa.putObj l (rec_ .busy none)) W3 →
        (Instr.endRound l jump).run Try.prog W3 = .ok (.bool jump.isNone) (W3.putObj l (rec_ (if jump.isNone then .ready else .done) jump)) ∧ Calm w.heap.size W3 (W3.putObj l (rec_ (if jump.isNone then .ready else .done) jump)) ∧
        (W3.putObj l (rec_ (if jump.isNone then .ready else .done) jump)).heap[l]? = some (rec_ (if jump.isNone then .ready else .done) jump) ∧ (W3.putObj l (rec_ (if jump.isNone then .ready else .done) jump)).heap[w.heap.size]? = some (.deferred (some [])) ∧
        Below n₀ W3 (W3.putObj l (rec_ (if jump.isNone then .ready else .done) jump)) := fun jump W3 hk3 => by
      have hl3 := hk3.same l _ (by omega) hl2 rfl
      exact ⟨run_endRound jump hl3, Calm.put _ (by omega) hl3 rfl, World.putObj_heap_same (Array.getElem?_eq_some_iff.1 hl3).1, (World.putObj_heap_other (by omega)).trans (hk3.same _ _ (Nat.le_refl _) hd2 rfl), belowK_b hn W3 l _ _ (by omega) hl3 rfl rfl⟩
    rintro e a3 W3 hp
    cases e with
    | normal =>
      obtain ⟨hk3, hb3, hi3⟩ := hp
      obtain ⟨hr, hc, hl4, hd4, hb4⟩ := fin none W3 hk3
      exact ⟨_, _, hr, .inl ⟨rfl, ⟨hI _ _ _ hi3 hc, hl4, hd4⟩, (hb2.trans hb3).trans hb4⟩⟩
    | exit id =>
      obtain ⟨hk3, hi3⟩ := hp
      obtain ⟨hr, hc, hl4, hd4, hb4⟩ := fin (some (.exit id)) W3 hk3
      exact ⟨_, _, hr, .inr ⟨rfl, id, hIx _ _ _ hi3 hc, hl4, hd4⟩⟩
    | ret => exact hp.elim
    | goto t => exact hp.elim
    | panic ch => exact hp.elim
    | outgrown => exact hp.elim
  · rintro e W2 ⟨⟨v, rfl⟩, (⟨hi, hl, hd⟩ | ⟨id, hi, hl, hd⟩)⟩
    · exact ⟨none, _, run_endLoop hl (fun h => by cases h), hdone _ _ (Nat.le_refl _) (hI _ _ _ hi (Calm.put _ (by omega) hl rfl)) ((World.putObj_heap_other (by omega)).trans hd)⟩
    · exact ⟨some (.exit id), _, run_endLoop hl (fun h => by cases h), hstop _ _ _ (Nat.le_refl _) (hIx _ _ _ hi (Calm.put _ (by omega) hl rfl)) ((World.putObj_heap_other (by omega)).trans hd)⟩

theorem handsV {w : World} {n₀ bx : Nat} {a : Option Addr} {len cap : Nat} {X : List (D)} (hbx : w.cell? ⟨bx, 0, none⟩ = some (.slice a len cap)) (hb : bx < n₀) (hn : n₀ ≤ w.heap.size) (hX : X.length = len) (hlim : len ≤ 281474976710656)
    (hor : len = 0 ∨ ∃ b off, a = some ⟨b, off, none⟩ ∧ b < n₀ ∧ ∀ j, j < len → w.cell? ⟨b, off + j * 2, none⟩ = some (.int .i64 (at_ X j).1) ∧ w.cell? ⟨b, off + j * 2 + 1, none⟩ = some (.int .i64 (at_ X j).2)) :
    HandsV n₀ (some ⟨bx, 0, none⟩) X w := fun l J Jx W hW hJ hY h0 =>
  values_in l n₀ bx J Jx hJ hY W ((hW.cell (p := ⟨bx, 0, none⟩) hb).trans hbx) hX hlim (Nat.le_trans hn hW.size) (hor.imp id fun ⟨b, off, e, hbb, hc⟩ => ⟨b, off, e, hbb, fun j hj => ⟨(hW.cell (p := ⟨b, off + j * 2, none⟩) hbb).trans (hc j hj).1, (hW.cell (p := ⟨b, off + j * 2 + 1, none⟩) hbb).trans (hc j hj).2⟩⟩) h0

set_option maxHeartbeats 400000 in
theorem appendSeq_in (w : World) (p : Option Addr) (X : List (D)) (hH : HandsV w.heap.size p X w) (hX : X.length ≤ 65536) :
    CallsIn Fence.wide 10 Try.prog 52 #[.slice none 0 0, .func (.func 48) #[] #[.pointer p]] w fun e w' => ∃ v, e = .returned v ∧ w'.ownsRow w.heap.size 43 2 v X.length (X.flatMap dc) ∧ Below w.heap.size w w' := by
  obtain ⟨i0, hi, hz0, hz1, hz2⟩ := info_parts info_due
  refine callsIn_of_wp_marks Try.func52 rfl trivial ?_ rfl
  simp only [Try.ntmps52, List.size_toArray, List.length_cons, List.length_nil, Nat.reduceAdd, Nat.reduceSub, Array.replicate_succ, Array.replicate_zero, List.push_toArray, List.append_toArray, List.nil_append, List.cons_append]
  gi_wp2
  obtain ⟨W0, hW0⟩ : ∃ W0, w.alloc (Obj.cells #[Value.slice none 0 0] 26) = W0 := ⟨_, rfl⟩
  have hB0 : Below w.heap.size w W0 := by rw [← hW0]; exact (Below.refl _ w).alloc (Nat.le_refl _) _
  have hsz : W0.heap.size = w.heap.size + 1 := by rw [← hW0]; simp
  have hx2 : Boxed W0 w.heap.size 26 (.slice none 0 0) := by rw [← hW0]; exact Boxed.new w 26 _
  rw [hW0]
  clear hW0
  generalize hb0 : w.heap.size = n₀ at *
  have HB0 : Hid (w.heap.size = n₀) := hb0
  clear hb0
  have hl : HandsV n₀ p X W0 := fun l J Jx W hW => hH l J Jx W (hB0.trans hW)
  refine range_values (n₀ := n₀) (bs := X) (p := p) rfl hl (by omega)
    (fun k W => ∃ v, Boxed W n₀ 26 v ∧ W.ownsRow n₀ 43 2 v k ((X.take k).flatMap dc) ∧ Below n₀ w W)
    (fun _ _ => False)
    (fun k W W' ⟨v, h2, h3, h4⟩ hc => ⟨v, boxed_calm h2 hc, row_calm h3 hc, hc.below (by omega) h4 (by have := HB0.out; omega)⟩)
    (fun _ _ _ h _ => h)
    ⟨_, hx2, World.ownsRow_nil _ _ _ _, hB0⟩
    (fun k a' W => ∃ Bx gp, X[k]? = some gp ∧ DueBox W Bx gp ∧ a' = { tmps := #[Value.slice none 0 0, Value.func (Fn.func 48) #[] #[Value.pointer p], Value.pointer (some { block := n₀, off := 0 }), undef, Value.slice none 0 0, .pointer (some ⟨Bx, 0, none⟩), Value.func (Fn.func 48) #[] #[Value.pointer p], dv gp, undef, undef, undef, undef, undef], defers := [] })
    (fun k a' W W' ⟨Bx, gp, h0, h1, h2⟩ hc => ⟨Bx, gp, h0, h1.calm hc, h2⟩)
    ?assign ?body ?done (fun _ _ _ _ h => h.elim)
  case assign =>
    intro l k gp W K hk hi hK
    obtain ⟨v, h2, h3, h4⟩ := hi
    unfold dv
    gi_wp2
    have hsW := h4.size
    rw [HB0.out] at hsW
    exact hK _ _ (keeps_new _ _ _) ((Below.refl _ W).alloc hsW _) ⟨v, h2.alloc _, h3.alloc _, h4.alloc hsW _⟩ ⟨_, gp, hk, DueBox.new W gp, rfl⟩
  case body =>
    rintro l k gp a' W hk ⟨v, h2, h3, h4⟩ ⟨Bx, gp', hk', hgb, rfl⟩
    rw [hk] at hk'; cases hk'
    have hkl : k < X.length := (List.getElem?_eq_some_iff.1 hk).1
    obtain ⟨va, vc, rfl⟩ := own_len h3
    have c2 := h2.cell
    have f2 := h2.frozen
    have c3 := hgb.start
    have c4 := hgb.stop
    have hsW := h4.size
    rw [HB0.out] at hsW
    have HE : Hid _ := dc_snoc hk
    gi_wp2_with (gi_at_builtin; refine wpListIn_append_own _ rfl _ _ 26 rfl n₀ 43 i0 (.agg #[.int .i64 0, .int .i64 0]) 2 16 Try.underlying26 hi hz0 hz1 hz2 rfl (by decide) _ _ _ rfl (h3.alloc _) ⟨W.heap.size, 0, none⟩ 1 1 [.int .i64 gp.1, .int .i64 gp.2] rfl rfl (cells_new2 _ _ _ _) (by simp [Value.oneCell']) ?c3 ?c4 (by simp; omega) ?_)
    case c3 => unfold maxLen; omega
    case c4 => omega
    intro v' W2 ho hgr _
    have hfr : Fr n₀ 43 W W2 := (Fr.alloc W hsW _).trans (Fr.grown (h3.alloc _) (by simp; omega) hgr)
    obtain ⟨va', vc', rfl⟩ := own_len ho
    have d2 := hfr.boxed (by decide) h2
    have c22 := d2.cell
    have f22 := d2.frozen
    clear c2 f2 c3 c4
    have HO : Hid _ := ho
    clear ho hgr h3 h2
    gi_wp2
    have ho := HO.out
    refine ⟨(hfr.keeps _).trans ((KeepsOthers.setCell _ _ _).from _), hfr.below.trans ((Below.refl _ _).setCell (p := ⟨n₀, 0, none⟩) (by simp) _), _, d2.set _, ?_, (h4.trans hfr.below).setCell (p := ⟨n₀, 0, none⟩) (by simp) _⟩
    rw [HE.out]
    refine ownsRow_setCell_other ho (fun hh => ?_) _
    exact d2.not_row (by decide) ho hh.symm
  case done =>
    rintro D W hD ⟨v, h2, h3, h4⟩ hdef
    have c2 := h2.cell
    gi_wp2
    refine ⟨by simp, .inl ⟨_, _, rfl, run_takeDeferred hdef, ?_⟩⟩
    rw [List.take_length] at h3
    have hbb := belowK_b (n₀ := n₀) (w := W0) (by omega) W D _ (.deferred none) hD hdef rfl rfl
    refine ⟨_, results_tmp rfl _ _ _, _, rfl, ?_, ?_⟩
    · rw [HB0.out]; exact ownsRow_putObj h3 _ hdef rfl
    · rw [HB0.out]; exact h4.trans hbb

theorem collect (w : World) (p : Option Addr) (X : List (D)) (hH : HandsV w.heap.size p X w) (hX : X.length ≤ 65536) :
    Calls Try.prog 46 #[.func (.func 48) #[] #[.pointer p]] w fun e w' => ∃ v, e = .returned v ∧ w'.ownsRow w.heap.size 43 2 v X.length (X.flatMap dc) ∧ Below w.heap.size w w' := by
  have HC : Hid _ := callsIn_wide.1 (appendSeq_in w p X hH hX)
  clear hH
  go_enter Try.func46, Try.ntmps46
  go_wp2_with fail
  refine Calls.mono HC.out ?_
  rintro e w' ⟨v, rfl, h1, h2⟩
  go_wp2
  go_ret
  exact ⟨_, rfl, h1, h2⟩
theorem ltG (x y : D) : ltOf ordD x y = decide (x.2 < y.2 ∨ (x.2 = y.2 ∧ x.1 < y.1)) := by
  unfold ltOf
  rw [Bool.eq_iff_iff]
  simp only [decide_eq_true_eq]
  unfold ordD pick2 cmpI
  by_cases h1 : x.2 < y.2
  · simp [h1]
  · by_cases h2 : y.2 < x.2
    · simp [h1, h2]; omega
    · have e : x.2 = y.2 := by omega
      by_cases h3 : x.1 < y.1
      · simp [h3, e]
      · by_cases h4 : y.1 < x.1 <;> simp [h3, h4, e]
theorem swoG : SWO (ltOf ordD) where
  irrefl x := by rw [ltG]; simp
  trans x y z h1 h2 := by rw [ltG] at *; simp at *; omega
  ntrans x y z h1 h2 := by rw [ltG] at *; simp at *; omega
theorem cmpLaysG (blk off size : Nat) (w : World) : CmpLays Try.prog 22 #[] dc 2 ordD blk off size w := fun _ _ _ _ x y => ordF x y _
/-- a row of timers, wherever it lies -/
def Rw (w : World) (v : Value) (X : List D) : Prop :=
  X.length ≤ 281474976710656 ∧ ∃ a cap, v = .slice a X.length cap ∧ (X.length = 0 ∨ ∃ b off, a = some ⟨b, off, none⟩ ∧ b < w.heap.size ∧ ∀ j, j < X.length → w.cell? ⟨b, off + j * 2, none⟩ = some (.int .i64 (at_ X j).1) ∧ w.cell? ⟨b, off + j * 2 + 1, none⟩ = some (.int .i64 (at_ X j).2))
theorem holds_own {w : World} {base g cap : Nat} {X : List (D)} (h : w.ownsRow base 43 2 (.slice (some ⟨g, 0, none⟩) X.length cap) X.length (X.flatMap dc)) : HoldsK dc 2 w g 0 X.toArray := by
  intro j hj
  rw [size_flatK] at hj
  have hj2 : j < X.length * 2 := by simpa using hj
  rw [Nat.zero_add, h.frozenAt j, h.cellAt j hj2, get_flatK _ _ _ _ hj]
  refine ⟨?_, rfl⟩
  have hdm : j = (j / 2) * 2 + j % 2 := by omega
  have hlt : j / 2 < X.length := by omega
  obtain ⟨g1, g2⟩ := dcs_at X (j / 2) hlt
  have hX : X.toArray[j / 2]! = at_ X (j / 2) := by
    rw [getElem!_pos _ _ (by simpa using hlt)]; unfold at_; rw [List.getD_eq_getElem?_getD, List.getElem?_eq_getElem hlt]; simp
  rw [hX]
  rcases Nat.mod_two_eq_zero_or_one j with e | e
  · rw [e]
    have h9 : (X.flatMap dc)[j]? = (X.flatMap dc)[j / 2 * 2]? := by congr 1; omega
    rw [h9]; refine g1.trans ?_; simp [dc]
  · rw [e]
    have h9 : (X.flatMap dc)[j]? = (X.flatMap dc)[j / 2 * 2 + 1]? := by congr 1; omega
    rw [h9]; refine g2.trans ?_; simp [dc]

theorem mapBlock_other (w : World) (blk k : Nat) (f : Array Value → Array Value) (h : k ≠ blk) : (mapBlock w blk f).heap[k]? = w.heap[k]? := by
  unfold mapBlock
  simp [Array.getElem?_modify, Ne.symm h]

theorem sortDues (w : World) (n₀ : Nat) (v : Value) (X : List (D)) (h : w.ownsRow n₀ 43 2 v X.length (X.flatMap dc)) (hn : n₀ ≤ w.heap.size) (hX : X.length ≤ 65536) (hX0 : 0 < X.length) :
    Calls Try.prog 47 #[v, .func (.func 22) #[] #[]] w fun e w' => e = .returned (.tuple #[]) ∧ ∃ X' : List (D), X'.Perm X ∧ X'.Pairwise (fun a b => ltOf ordD b a = false) ∧ Rw w' v X' ∧ Below n₀ w w' := by
  obtain ⟨g, cap, hv, hg0, hgl, _⟩ := own_some h hX0
  subst hv
  have eg : ∀ args w, (callFunc 22 args).run Try.prog w = .ok (.enter 22 args) w := enters_of Try.func22 (by kernel_rfl) rfl
  have hcon := AnyQ.slices_SortFunc Try.sortDue 2 Try.isAgg43 Try.sizeOf43 dc (fun _ => rfl) (fun x v hv => by simp [dc] at hv; rcases hv with rfl | rfl <;> rfl) ordD swoG 22 #[] g 0 cap X.toArray w eg (cmpLaysG g 0 _ w) (holds_own h) hgl (by simp; omega)
  change Calls Try.prog 47 _ _ _ at hcon
  simp only [List.size_toArray] at hcon
  refine hcon.mono ?_
  rintro e w' ⟨rfl, d', n, os, hp, hs, rfl⟩
  have hsz : d'.size = X.length := by rw [hp.1]; simp
  have hH : HoldsK dc 2 (sortWorldK dc 2 w g 0 n d' os) g 0 d' := by
    unfold sortWorldK
    refine holdsK_grow dc 2 _ _ _ _ _ ?_ (holdsK_putRowK dc 2 _ g 0 X.toArray d' (holdsK_ahead dc 2 w n g 0 _ (holds_own h)) (by rw [hsz]; simp))
    show g < (mapBlock _ _ _).heap.size
    simp [mapBlock, Sort.ahead]; exact hgl
  refine ⟨rfl, d'.toList, ?_, ?_, ⟨by rw [Array.length_toList, hsz]; omega, _, cap, by show Value.slice (some ⟨g, 0, none⟩) X.length cap = _; rw [show d'.toList.length = X.length by rw [Array.length_toList, hsz]], .inr ⟨g, 0, rfl, ?_, fun j hj => ?_⟩⟩, ?_⟩
  · have h9 := hp.2.2
    rw [show d'.extract 0 X.length = d' by rw [← hsz]; exact Array.extract_size, show X.toArray.extract 0 X.length = X.toArray by have h8 : X.toArray.extract 0 X.toArray.size = X.toArray := Array.extract_size; rw [List.size_toArray] at h8; exact h8] at h9
    simpa using h9
  · rw [List.pairwise_iff_getElem]
    intro i j hi hj hij
    rw [Array.length_toList] at hi hj
    have h9 := hs i j (Nat.zero_le _) hij (by omega)
    rw [getElem!_pos d' j hj, getElem!_pos d' i hi] at h9
    simpa using h9
  · show g < (grow _ _).heap.size
    simp [grow, putRowK, putRow, mapBlock, Sort.ahead]; omega
  · rw [Array.length_toList] at hj
    have c0 := (hH.cell (i := j) (c := 0) hj (by decide)).1
    have c1 := (hH.cell (i := j) (c := 1) hj (by decide)).1
    rw [getElem!_pos d' j hj] at c0 c1
    have ea : at_ d'.toList j = d'[j] := by unfold at_; rw [List.getD_eq_getElem?_getD, List.getElem?_eq_getElem (by rw [Array.length_toList]; exact hj)]; simp
    rw [ea]
    simp only [Nat.zero_add, Nat.add_zero] at c0 c1 ⊢
    exact ⟨by rw [c0]; simp [dc], by rw [c1]; simp [dc]⟩
  · refine ⟨rfl, rfl, rfl, ?_, fun k hk => ?_⟩
    · show _ ≤ (grow _ _).heap.size
      simp [grow, putRowK, putRow, mapBlock, Sort.ahead]
    · show (grow (putRowK dc 2 (Sort.ahead w n) g 0 d') os).heap[k]? = _
      show ((putRowK dc 2 (Sort.ahead w n) g 0 d').heap ++ os)[k]? = _
      rw [Array.getElem?_append_left (by simp [putRowK, putRow, mapBlock, Sort.ahead]; omega)]
      exact mapBlock_other (Sort.ahead w n) g k _ (by omega)
theorem sortAll (w : World) (n₀ : Nat) (v : Value) (X : List (D)) (h : w.ownsRow n₀ 43 2 v X.length (X.flatMap dc)) (hn : n₀ ≤ w.heap.size) (hX : X.length ≤ 65536) :
    Calls Try.prog 47 #[v, .func (.func 22) #[] #[]] w fun e w' => e = .returned (.tuple #[]) ∧ ∃ X' : List (D), X'.Perm X ∧ X'.Pairwise (fun a b => ltOf ordD b a = false) ∧ Rw w' v X' ∧ Below n₀ w w' := by
  by_cases h0 : 0 < X.length
  · exact sortDues w n₀ v X h hn hX h0
  · have e0 : X = [] := List.eq_nil_of_length_eq_zero (by omega)
    subst e0
    obtain ⟨va, vc, rfl⟩ := own_len h
    refine (AnyF.slices_SortFunc_none Try.sortDue va vc (.func (.func 22) #[] #[]) w).mono ?_
    rintro e w' ⟨rfl, rfl⟩
    exact ⟨rfl, [], .refl _, .nil, ⟨by simp, va, vc, rfl, .inl rfl⟩, Below.refl _ _⟩

theorem sortedFunc (w : World) (p : Option Addr) (X : List (D)) (hH : HandsV w.heap.size p X w) (hX : X.length ≤ 65536) :
    Calls Try.prog 42 #[.func (.func 48) #[] #[.pointer p], .func (.func 22) #[] #[]] w fun e w' => ∃ v, e = .returned v ∧ ∃ X' : List (D), X'.Perm X ∧ X'.Pairwise (fun a b => ltOf ordD b a = false) ∧ Rw w' v X' ∧ Below w.heap.size w w' := by
  have HC : Hid _ := collect w p X hH hX
  clear hH
  go_enter Try.func42, Try.ntmps42
  go_wp2_with fail
  refine Calls.mono HC.out ?_
  rintro e w' ⟨v, rfl, h1, h2⟩
  have H1 : Hid _ := h1
  clear h1
  go_wp2_with fail
  refine Calls.mono (sortAll _ w.heap.size v X H1.out h2.size hX) ?_
  rintro e w2 ⟨rfl, X', g1, g2, g3, g4⟩
  have H2 : Hid _ := g3
  clear g3
  go_wp2
  go_ret
  exact ⟨_, rfl, X', g1, g2, H2.out, h2.trans g4⟩

theorem values (w : World) (a : Option Addr) (len cap : Nat) :
    Calls Try.prog 43 #[.slice a len cap] w fun e w' => e = .returned (.func (.func 48) #[] #[.pointer (some ⟨w.heap.size, 0, none⟩)]) ∧ w'.cell? ⟨w.heap.size, 0, none⟩ = some (.slice a len cap) ∧ Below w.heap.size w w' ∧ w.heap.size < w'.heap.size := by
  go_enter Try.func43, Try.ntmps43
  go_wp2
  go_ret
  exact ⟨rfl, (Boxed.new w 26 _).cell, (Below.refl _ w).alloc (Nat.le_refl _) _, by simp⟩

/-- worlds while a heap's items are put in order -/
structure SrA (w : World) (a : Option Addr) (X : List D) (cap : Nat) (S : List D) (k : Nat) (x : Value) (w' : World) : Prop where
  bel : Below w.heap.size w w'
  h0 : k = 0 → w' = w.drew
  h1 : k = 1 → w'.cell? ⟨w.heap.size, 0, none⟩ = some (.slice a X.length cap) ∧ w.heap.size < w'.heap.size
  h2 : k = 2 → Rw w' x S
theorem sorted_is {X S X' : List D} (h : Abs X S) (hk : ∀ d ∈ X, Ok d) (hn : (X.map (·.1)).Nodup) (hp : X'.Perm X) (hs : X'.Pairwise (fun a b => ltOf ordD b a = false)) : X' = S := by
  refine sd_unique ?_ h.2 (hp.trans h.1.symm)
  have hn' : (X'.map (·.1)).Nodup := (hp.map _).nodup_iff.2 hn
  rw [List.nodup_iff_pairwise_ne, List.pairwise_map] at hn'
  refine List.Pairwise.imp_of_mem ?_ (hs.and hn')
  rintro a b ha hb ⟨h1, h2⟩
  have oa := hk a (hp.mem_iff.1 ha)
  have ob := hk b (hp.mem_iff.1 hb)
  rw [ltG] at h1
  simp at h1
  obtain ⟨⟨_, _⟩, _⟩ := oa
  obtain ⟨⟨_, _⟩, _⟩ := ob
  unfold key
  omega
set_option maxHeartbeats 1000000 in
theorem sorted {w : World} {b m n : Nat} {v : Value} {X S : List D} {f : Int → Option Int} (h : Hp w b v m X f n) (hpo : Posn f X) (hk : ∀ d ∈ X, Ok d) (ha : Abs X S) : Calls Try.prog 37 #[.pointer (some ⟨b, 0, none⟩)] w fun e w' => ∃ v, e = .returned v ∧ Rw w' v S ∧ Below w.heap.size w w' := by
  have hb := h.1.lt
  have hX : X.length ≤ 4096 := few hpo.nodup hk
  obtain ⟨a, cap, rfl⟩ := own_len h.2.1
  have c0 := h.1.cell 0 rfl
  have c3 := h.1.cell 3 rfl
  have EV : Hid (∀ (args : Array Value) (w : World), (callFunc 43 args).run Try.prog w = .ok (.enter 43 args) w) := enters_of Try.func43 (by kernel_rfl) rfl
  have ES : Hid (∀ (args : Array Value) (w : World), (callFunc 42 args).run Try.prog w = .ok (.enter 42 args) w) := enters_of Try.func42 (by kernel_rfl) rfl
  have SF : Hid (∀ w', w'.cell? ⟨w.heap.size, 0, none⟩ = some (.slice a X.length cap) → w.heap.size < w'.heap.size → Below w.heap.size w w' → Calls Try.prog 42 #[.func (.func 48) #[] #[.pointer (some ⟨w.heap.size, 0, none⟩)], ford] w' fun e w2 => ∃ v, e = .returned v ∧ Rw w2 v S ∧ Below w.heap.size w w2) := fun w' h1 h2 h3 => by
    have hor : X.length = 0 ∨ ∃ bb off, a = some ⟨bb, off, none⟩ ∧ bb < w'.heap.size ∧ ∀ j, j < X.length → w'.cell? ⟨bb, off + j * 2, none⟩ = some (.int .i64 (at_ X j).1) ∧ w'.cell? ⟨bb, off + j * 2 + 1, none⟩ = some (.int .i64 (at_ X j).2) := by
      by_cases h0 : X.length = 0
      · exact .inl h0
      · right
        have hO := (h.later h3).2.1
        obtain ⟨g, cap', e, hg, _⟩ := hO.get (i := 0) (by omega)
        cases e
        exact ⟨g, 0, rfl, hg, fun j hj => by obtain ⟨q1, q2, _⟩ := hO.cell hj; rw [Nat.zero_add]; exact ⟨q1, q2⟩⟩
    refine (sortedFunc w' _ X (handsV h1 h2 (Nat.le_refl _) rfl (by omega) hor) (by omega)).mono ?_
    rintro e w2 ⟨v, rfl, X', g1, g2, g3, g4⟩
    rw [sorted_is ha hk hpo.nodup g1 g2] at g3
    exact ⟨v, rfl, g3, h3.trans (g4.mono h3.size)⟩
  clear h hpo hk ha
  go_enter Try.func37, Try.ntmps37
  go_upto_region 1 with fail
  refine Ord.wp_region_ex0 (X := Value) (by kernel_rfl) 13 (fun x => [(some 3, .pointer (some ⟨b, 0, none⟩)), (some 4, .pointer (some ⟨b, 0, none⟩)), (some 5, .pointer (some ⟨b, 0, none⟩)), (some 6, .slice a X.length cap), (some 7, .func (.func 48) #[] #[.pointer (some ⟨w.heap.size, 0, none⟩)]), (some 8, .pointer (some ⟨b, 0, none⟩)), (some 9, .pointer (some ⟨b, 0, none⟩)), (some 10, .pointer (some ⟨b, 3, none⟩)), (some 11, ford), (some 12, x), (some 2, x)]) [some 3, some 4, some 5, some 6, some 7, some 8, some 9, some 10, some 11, some 12, some 2] rfl (fun listed hsz hr => Ord.all_listedC (rank := [0, 1, 2, 3, 4, 5, 6, 7, 8, 9, 10]) (by kernel_rfl) hsz hr) (by rfl) (fun _ => rfl) (by kernel_rfl) (Rg.StM [4, 9] (fun k x w' => SrA w a X cap S k x w')) (fun _ _ _ _ hL h => h.ext (n := 11) (by decide) hL) ?_ ?_ undef ?_
  case refine_1 =>
    intro x Lq iq oq ac w' ho hi hcl hdep hF hW
    have f1 : ac.tmps.size = 13 := hF.1
    match iq, ho, hi, hdep with
    | 0, ho, hi, hdep =>
      cases ho
      have da0 : ac.eval (.tmp 0) = .pointer (some ⟨b, 0, none⟩) := hF.old 0 rfl
      exact Ord.ex_value x rfl rfl (Rg.mv da0 rfl) rfl (hW.keep (by decide))
    | 1, ho, hi, hdep =>
      cases ho
      have da0 : ac.eval (.tmp 3) = .pointer (some ⟨b, 0, none⟩) := hF.2.2.2 0 3 _ rfl (hdep ⟨0, .data⟩ (by simp) rfl)
      exact Ord.ex_value x rfl rfl (Rg.nilc da0 rfl) rfl (hW.keep (by decide))
    | 2, ho, hi, hdep =>
      cases ho
      have da0 : ac.eval (.tmp 4) = .pointer (some ⟨b, 0, none⟩) := hF.2.2.2 1 4 _ rfl (hdep ⟨1, .data⟩ (by simp) rfl)
      exact Ord.ex_value x rfl rfl (Rg.fa da0 rfl (by simp [go_sem])) rfl (hW.keep (by decide))
    | 3, ho, hi, hdep =>
      cases ho
      have da0 : ac.eval (.tmp 5) = .pointer (some ⟨b, 0, none⟩) := hF.2.2.2 2 5 _ rfl (hdep ⟨2, .data⟩ (by simp) rfl)
      obtain ⟨kq, hlo, hhi, hA⟩ := hW.range 0 0 (.inl rfl) (.inr ⟨4, rfl, (Rg.no_of (fun h => hcl 4 _ rfl (h) ⟨3, .data⟩ (by simp) rfl) hi)⟩)
      exact Ord.ex_value x rfl rfl (Rg.load da0 rfl (by rw [hA.h0 (by omega)]; simp [go_sem, c0])) rfl (hW.keep (by decide))
    | 4, ho, hi, hdep =>
      cases ho
      have da0 : ac.eval (.tmp 6) = .slice a X.length cap := hF.2.2.2 3 6 _ rfl (hdep ⟨3, .data⟩ (by simp) rfl)
      have hA := hW.at (k := 0) rfl hi (.inl rfl)
      have hw := hA.h0 rfl
      subst hw
      exact Rg.ex_call x rfl rfl (Rg.enter (args := #[.slice a X.length cap]) rfl rfl (by simp [da0]) EV.out) (Calls.mono (values w.drew _ _ _) (by rintro e w2 ⟨rfl, h1, h2, h3⟩; exact ⟨rfl, hW.next (k := 0) rfl (by decide) hi (.inl rfl) ⟨(Below.refl _ w).drew.trans h2, fun e => absurd e (by decide), fun _ => ⟨h1, h3⟩, fun e => absurd e (by decide)⟩⟩))
    | 5, ho, hi, hdep =>
      cases ho
      have da0 : ac.eval (.tmp 0) = .pointer (some ⟨b, 0, none⟩) := hF.old 0 rfl
      exact Ord.ex_value x rfl rfl (Rg.mv da0 rfl) rfl (hW.keep (by decide))
    | 6, ho, hi, hdep =>
      cases ho
      have da0 : ac.eval (.tmp 8) = .pointer (some ⟨b, 0, none⟩) := hF.2.2.2 5 8 _ rfl (hdep ⟨5, .data⟩ (by simp) rfl)
      exact Ord.ex_value x rfl rfl (Rg.nilc da0 rfl) rfl (hW.keep (by decide))
    | 7, ho, hi, hdep =>
      cases ho
      have da0 : ac.eval (.tmp 9) = .pointer (some ⟨b, 0, none⟩) := hF.2.2.2 6 9 _ rfl (hdep ⟨6, .data⟩ (by simp) rfl)
      exact Ord.ex_value x rfl rfl (Rg.fa da0 rfl (by simp [go_sem])) rfl (hW.keep (by decide))
    | 8, ho, hi, hdep =>
      cases ho
      have da0 : ac.eval (.tmp 10) = .pointer (some ⟨b, 3, none⟩) := hF.2.2.2 7 10 _ rfl (hdep ⟨7, .data⟩ (by simp) rfl)
      obtain ⟨kq, hlo, hhi, hA⟩ := hW.range 0 1 (.inl rfl) (.inr ⟨9, rfl, (Rg.no_of (fun h => hcl 9 _ rfl (h) ⟨8, .data⟩ (by simp) rfl) hi)⟩)
      exact Ord.ex_value x rfl rfl (Rg.load da0 rfl (by simp [go_sem, (hA.bel.cell (p := ⟨b, 3, none⟩) hb).trans c3])) rfl (hW.keep (by decide))
    | 9, ho, hi, hdep =>
      cases ho
      have da0 : ac.eval (.tmp 7) = .func (.func 48) #[] #[.pointer (some ⟨w.heap.size, 0, none⟩)] := hF.2.2.2 4 7 _ rfl (hdep ⟨4, .data⟩ (by simp) rfl)
      have da1 : ac.eval (.tmp 11) = ford := hF.2.2.2 8 11 _ rfl (hdep ⟨8, .data⟩ (by simp) rfl)
      have hA := hW.at (k := 1) rfl hi (.inr ⟨4, rfl, (hdep ⟨4, .data⟩ (by simp) rfl)⟩)
      obtain ⟨h1, h2⟩ := hA.h1 rfl
      refine Rg.ex_calll x rfl rfl (Rg.enter (args := #[.func (.func 48) #[] #[.pointer (some ⟨w.heap.size, 0, none⟩)], ford]) rfl rfl (by simp [da0, da1]) ES.out) (Calls.mono (SF.out w' h1 h2 hA.bel) ?_)
      rintro e w2 ⟨v, rfl, hr, hB⟩
      exact ⟨v, rfl, (fun j hj => match j, hj with | 0, _ => rfl | 1, _ => rfl | 2, _ => rfl | 3, _ => rfl | 4, _ => rfl | 5, _ => rfl | 6, _ => rfl | 7, _ => rfl | 8, _ => rfl | 9, hj => absurd hj (by rw [hi]; decide) | 10, hj => absurd hj (by rw [(Rg.no_of (fun h => hcl 10 _ rfl (h) ⟨9, .data⟩ (by simp) rfl) hi)]; decide) | _ + 11, _ => rfl), hW.next (k := 1) rfl (by decide) hi (.inr ⟨4, rfl, (hdep ⟨4, .data⟩ (by simp) rfl)⟩) ⟨hB, fun e => absurd e (by decide), fun e => absurd e (by decide), fun _ => hr⟩⟩
    | 10, ho, hi, hdep =>
      cases ho
      have da0 : ac.eval (.tmp 12) = x := hF.2.2.2 9 12 _ rfl (hdep ⟨9, .data⟩ (by simp) rfl)
      exact Ord.ex_value x rfl rfl (Rg.asg da0 rfl) rfl (hW.keep (by decide))
  case refine_3 => exact Rg.StM.first ⟨(Below.refl _ w).drew, fun _ => rfl, fun e => absurd e (by decide), fun e => absurd e (by decide)⟩
  case refine_2 =>
    intro x w' hW
    have HW := hidden hW.last
    clear hW
    simp only [Ord.puts, Ord.prs]
    go_simp
    go_wp2
    go_ret
    exact ⟨x, rfl, HW.out.h2 rfl, HW.out.bel⟩
theorem tall {w : World} {t : Nat} {S : List D} {last : Int} {F : List Nat} (h : Tb w t S last F) : Calls Try.prog 17 #[.pointer (some ⟨t, 0, none⟩)] w fun e w' => ∃ v, e = .returned v ∧ Rw w' v S ∧ Below w.heap.size w w' := by
  obtain ⟨b, m, v, X, f, rfl, h1, h2, h3, h4, h5, h6, h7⟩ := h
  have c0 := h1.cell 0 rfl
  have U := hidden (unmade c0)
  have SO := hidden (sorted h2 h3 h5 h6)
  clear h1 h2 h3 h4 h5 h6 h7
  go_enter Try.func17, Try.ntmps17
  go_wp2_with fail
  refine Calls.mono U.out ?_
  rintro e w' ⟨rfl, rfl⟩
  go_wp2_with fail
  refine Calls.mono SO.out ?_
  rintro e w' ⟨u, rfl, hr, hB⟩
  have HR := hidden hr
  clear hr
  go_wp2
  go_ret
  exact ⟨_, rfl, HR.out, hB⟩
end Go.Proofs.Ytinhhfnknlmdgaa.Tm
