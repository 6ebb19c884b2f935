/-
  A box's chunks, one by one, to whatever loop ranges over them.
  Conditions: the loop's invariant tells where the row lies.
-/
import Derived.Test.YtjceeckcfjjkkaaObC
import Derived.RangeFuncNested
import Derived.RangeFuncBound
import Derived.RangeFuncCalls
import Derived.RangeFuncLeaves
import Derived.RangeFuncBox
import Derived.Shelf.Abstract
import Derived.Shelf.RegionOpen
import Derived.OwnWalkIn
import Derived.TacticsInMore
import Derived.LoopNIn
import Derived.LoopIn
namespace Go.Proofs.Ytjceeckcfjjkkaa.Ob
open Go.ChangeShapes Go.WideShapes Go.ChangeAt Go.RowKit Go.Shelf
open Ba (hidden Has cell_lt heap_lt)
set_option linter.unusedVariables false
attribute [local go_sem] Oper.semAt_some

/-- the loop's own book-keeping: a block that is no cells, laid since the loop began, may have turned; new ones may have come -/
def Calm (B : Nat) (W W' : World) : Prop := ∃ row, W.grownBy W' row ∧ ∀ r, row = some r → B ≤ r ∧ ∃ o : Obj, W.heap[r]? = some o ∧ o.isCells = false
theorem Calm.put {B l : Nat} {W : World} {o : Obj} (o' : Obj) (hB : B ≤ l) (hl : W.heap[l]? = some o) (ho : o.isCells = false) : Calm B W (W.putObj l o') :=
  ⟨some l, grownBy_putObj' W l o', fun r e => by cases e; exact ⟨hB, o, hl, ho⟩⟩
theorem Calm.new (B : Nat) (W : World) (o : Obj) : Calm B W (W.alloc o) := ⟨none, World.grownBy_alloc W o none, fun r e => by cases e⟩
theorem Calm.same {B : Nat} {W W' : World} (h : Calm B W W') {k : Nat} {o : Obj} (hk : W.heap[k]? = some o) (hkl : k < B ∨ o.isCells = true) : W'.heap[k]? = some o := by
  obtain ⟨row, hg, hr⟩ := h
  refine (hg.block k (Array.getElem?_eq_some_iff.1 hk).1 fun e => ?_).trans hk
  obtain ⟨h1, o', h2, h3⟩ := hr k e.symm
  rw [hk] at h2; cases h2
  rcases hkl with h | h
  · omega
  · rw [h3] at h; cases h
theorem Calm.below {B n : Nat} {w W W' : World} (h : Calm B W W') (hn : n ≤ B) (hB : Below n w W) (hs : n ≤ w.heap.size) : Below n w W' := by
  obtain ⟨row, hg, hr⟩ := h
  exact hB.grown hg (Nat.le_trans hs hB.size) fun k e => Nat.le_trans hn (hr k e).1
theorem boxed_calm {B : Nat} {W W' : World} {b : Nat} {t : TypeId} {v : Value} (h : Boxed W b t v) (hc : Calm B W W') : Boxed W' b t v := hc.same h (.inr rfl)
theorem Calm.mod {B : Nat} {F : Nat → Prop} {w W W' : World} (h : Calm B W W') (hm : Mod F w W) (hs : w.heap.size ≤ B) : Mod F w W' := by
  obtain ⟨row, hg, hr⟩ := h
  exact hm.trans (G := fun k => B ≤ k) (Mod.grown hg (fun k e => (hr k e).1)) (fun x hx => .inr (by omega))
/-- blocks of cells stay -/
theorem Calm.stays {B : Nat} {W W' : World} (h : Calm B W W') : Mod (fun k => ∀ cs t, ¬ Has W k cs t) W W' := by
  obtain ⟨row, hg, hr⟩ := h
  refine Mod.grown hg (fun k e cs t hh => ?_)
  obtain ⟨_, o, ho, hc⟩ := hr k e
  rw [show W.heap[k]? = some (.cells cs t (0, 0)) from hh] at ho
  cases ho
  cases hc
theorem Calm.has {B : Nat} {W W' : World} {b : Nat} {cs : Array Value} {t : TypeId} (h : Calm B W W') (hh : Has W b cs t) : Has W' b cs t := h.same hh (.inr rfl)
theorem Rw.calm {E : TypeId} {B : Nat} {W W' : World} {v : Value} {ps : List CV} (h : Rw E W v ps) (hc : Calm B W W') : Rw E W' v ps := h.stay hc.stays (fun k hk hn => by obtain ⟨cur, hh⟩ := h.obj hk; exact hn _ _ hh)
theorem By.calm {B : Nat} {D : Nat → Prop} {W W' : World} {v : Value} {zs : List Int} (h : By D W v zs) (hc : Calm B W W') : By D W' v zs := h.stay hc.stays (fun k cur _ hh hn => hn _ _ hh)
theorem Mine.calm {B base : Nat} {W W' : World} {v : Value} {zs : List Int} (h : Mine base W v zs) (hc : Calm B W W') : Mine base W' v zs := h.stay hc.stays (fun k hk hn => by obtain ⟨cur, hh, _⟩ := h.obj hk; exact hn _ _ hh)
theorem No.calm {B : Nat} {D : Nat → Prop} {W W' : World} {t f : Nat} {rv : Value} {P : List CV} {nx : Int} {n : Nat} {L : List Ch} {fs : Nat → Int} {m : Int} (h : No D W t f rv P nx n L fs m) (hc : Calm B W W') : No D W' t f rv P nx n L fs m :=
  h.stay hc.stays (fun k hk hn => by obtain ⟨cs, ty, hh, _⟩ := h.type hk; exact hn _ _ hh) (fun k cur _ hh hn => hn _ _ hh)
theorem Row.calm {B : Nat} {W W' : World} {a : Option Addr} {len : Nat} {zs : List Int} (h : Row W a len zs) (hc : Calm B W W') (hb : ∀ b off, a = some ⟨b, off, none⟩ → b < B) : Row W' a len zs := by
  obtain ⟨row, hg, hr⟩ := hc
  exact (Mod.grown (F := fun k => B ≤ k) hg (fun k e => (hr k e).1)).row h (fun b hb' => by obtain ⟨off, e⟩ := hb'; have := hb b off e; omega)
theorem keeps_mod {B : Nat} {F : Nat → Prop} {W W' : World} (hm : Mod F W W') (hF : ∀ k, F k → k < B ∨ ∃ cs t, Has W k cs t) : KeepsFrom B W W' :=
  ⟨hm.size, fun k o hB hk ho => (hm.block k (Array.getElem?_eq_some_iff.1 hk).1 (fun hf => by
    rcases hF k hf with h | ⟨cs, t, hh⟩
    · omega
    · rw [show W.heap[k]? = some (.cells cs t (0, 0)) from hh] at hk
      cases hk
      cases ho)).trans hk⟩
/-- what is handed out -/
def ea (v : Value) (k : Nat) : Value := match v with | .slice (some ⟨g, oo, s⟩) _ _ => .pointer (some ⟨g, oo + k * 14, s⟩) | _ => undef
theorem Pl.ea {v : Value} {i g o : Nat} (h : Pl v i g o) : ea v i = .pointer (some ⟨g, o, none⟩) := by
  obtain ⟨oo, l, c, rfl, rfl⟩ := h
  rfl
theorem each_in (l : Nat) (J : Nat → World → Prop) (Jx : World → Prop) {t n : Nat} {rv : Value}
    (hR : ∀ k W, J k W → W.cell? ⟨t, 0, none⟩ = some rv) (hv : (∃ cap, rv = .slice none 0 cap ∧ n = 0) ∨ ∃ g oo cap, rv = .slice (some ⟨g, oo, none⟩) n cap) (hn : n ≤ 1000000)
    (hJ : ∀ k W W', J k W → W.grownBy W' none → J k W')
    (hY : ∀ k W1, k < n → J k W1 → YieldAt Fence.wide 8 Try.prog l #[.int .i64 (k : Int), ea rv k] W1 fun e W' => (e = .returned (.bool true) ∧ J (k + 1) W') ∨ (e = .returned (.bool false) ∧ Jx W'))
    (W : World) (h0 : J 0 W) :
    CallsIn Fence.wide 9 Try.prog 41 #[.pointer (some ⟨t, 0, none⟩), .func (.yield l) #[] #[]] W fun e W' => (∃ v, e = .returned v) ∧ (J n W' ∨ Jx W') := by
  have c0 := hR 0 W h0
  rcases hv with ⟨cap, rfl, rfl⟩ | ⟨g, oo, cap, rfl⟩
  · refine callsIn_wide.2 ?_
    go_enter Try.func41, Try.ntmps41
    go_wp2_with fail
    go_loopw [10] (fun d wr => d = .int .i64 0 ∧ J 0 wr) (fun d wr => 0)
    case atStart => exact ⟨rfl, h0⟩
    case round =>
      obtain ⟨rfl, hJs⟩ := hrel
      go_wp2
      go_end0
      exact ⟨⟨_, rfl⟩, .inl hJs⟩
  · refine callsIn_wide.2 ?_
    go_enter Try.func41, Try.ntmps41
    go_wp2_with fail
    go_loopw [10] (fun d wr => ∃ k : Nat, d = .int .i64 (k : Int) ∧ k ≤ n ∧ J k wr) (fun d wr => n - (intOf d).toNat)
    case atStart => exact ⟨0, rfl, Nat.zero_le _, h0⟩
    case round =>
      obtain ⟨k, rfl, hk, hJs⟩ := hrel
      by_cases hkn : k = n
      · subst hkn
        go_wp2
        go_end0
        exact ⟨⟨_, rfl⟩, .inl hJs⟩
      · have hlt : (k : Int) < (n : Int) := by omega
        have d0 := hR k wr hJs
        have hw3 : IntKind.i64.wrap ((k : Int) + 1) = (k : Int) + 1 := by rw [IntKind.wrap_i64]; omega
        obtain ⟨fn, tmps, assign, body, hy, hRd⟩ := hY k wr (by omega) hJs
        have hea : ea (.slice (some ⟨g, oo, none⟩) n cap) k = .pointer (some ⟨g, oo + k * 14, none⟩) := rfl
        rw [hea] at hy
        have hRd2 := hRd.mono (R' := fun e W' => ∃ b : Bool, e = .returned (.bool b) ∧ Hid ((b = true ∧ J (k + 1) W') ∨ (b = false ∧ Jx W'))) (by
          rintro e W' (⟨rfl, h1⟩ | ⟨rfl, h1⟩)
          · exact ⟨true, rfl, .inl ⟨rfl, h1⟩⟩
          · exact ⟨false, rfl, .inr ⟨rfl, h1⟩⟩)
        clear hRd hY c0
        go_upto_region 3 with fail
        refine (wpIn_wide (n := 9)).1 ?_
        gi_wp2_with fail
        refine hRd2.mono ?_
        rintro e w4 ⟨b, rfl, hz⟩
        rcases hz with ⟨rfl, hJ4⟩ | ⟨rfl, hx4⟩
        · gi_wp2
          go_wp2
          go_roundw
          case rel => exact ⟨k + 1, by simp, by omega, hJ4⟩
          case measure => simp only [intOf]; omega
        · gi_wp2
          go_wp2
          refine bodyPost_ret (results_none rfl _ _ _) rfl ?_
          exact ⟨⟨_, rfl⟩, .inr hx4⟩
/-- how a round may end -/
def roundEnd (B : Nat) (I : Nat → World → Prop) (Ix : World → Prop) (k : Nat) (W : World) : Exit → Act → World → Prop
  | .normal, _, W' => KeepsFrom B W W' ∧ I (k + 1) W'
  | .ret, _, W' => KeepsFrom B W W' ∧ Ix W'
  | _, _, _ => False
theorem range_each {g : Operand} {p0 p1 : Tmp} {assign body : Code} {Q : Exit → Act → World → Prop} {a : Act} {w : World} {t n : Nat} {rv : Value}
    (hg : a.eval g = .func (.func 41) #[.pointer (some ⟨t, 0, none⟩)] #[])
    (hv : (∃ cap, rv = .slice none 0 cap ∧ n = 0) ∨ ∃ g oo cap, rv = .slice (some ⟨g, oo, none⟩) n cap) (hn : n ≤ 1000000)
    (I : Nat → World → Prop) (Ix : World → Prop) (hR : ∀ k W, I k W → W.cell? ⟨t, 0, none⟩ = some rv)
    (hI : ∀ k W W', I k W → Calm w.heap.size W W' → I k W') (hIx : ∀ W W', Ix W → Calm w.heap.size W W' → Ix W') (h0 : I 0 w)
    (hround : ∀ l k W, k < n → I k W → assign.wpIn (Fence.wide.inRound l) 8 Try.prog (Exit.then (fun a' W' => Hid (W' = W ∧ ∀ W2, I k W2 → body.wpIn (Fence.wide.inRound l) 8 Try.prog (roundEnd w.heap.size I Ix k W2) a' W2)) (fun _ _ _ => False)) { tmps := (a.tmps.setIfInBounds p0 (.int .i64 (k : Int))).setIfInBounds p1 (ea rv k), defers := [] } W)
    (hdone : ∀ D W, w.heap.size ≤ D → I n W → W.heap[D]? = some (.deferred (some [])) → Q .normal { a with defers := { target := .collected D, args := #[] } :: a.defers } W)
    (hstop : ∀ D W, w.heap.size ≤ D → Ix W → W.heap[D]? = some (.deferred (some [])) → (Code.ret).wpIn Fence.wide 10 Try.prog Q { a with defers := { target := .collected D, args := #[] } :: a.defers } W) :
    (Code.rangeFunc g #[p0, p1] assign body).wpIn Fence.wide 10 Try.prog Q a w := by
  refine wpIn_rangeFunc fun fn hfn => ?_
  let l := w.heap.size + 1
  let rec_ : LoopState → Option Code → Obj := fun st pe => .loop { state := st, pending := pe, fn, tmps := a.tmps, params := #[p0, p1], assign, body, defers := w.heap.size }
  let W1 := (w.alloc (.deferred (some []))).alloc (rec_ .ready none)
  have hL : W1.heap[l]? = some (rec_ .ready none) := by
    have := World.alloc_heap_new (w.alloc (.deferred (some []))) (rec_ .ready none)
    rwa [World.size_alloc] at this
  have hD : W1.heap[w.heap.size]? = some (.deferred (some [])) := (Below.heap_alloc _ _ _ (by simp)).trans (World.alloc_heap_new w _)
  have hstart : I 0 W1 := hI 0 _ _ (hI 0 _ _ h0 (Calm.new _ _ _)) (Calm.new _ _ _)
  refine ⟨l, [{ target := .collected w.heap.size, args := #[] }], W1, { target := .fn (.func 41) #[], args := #[.pointer (some ⟨t, 0, none⟩), .func (.yield l) #[] #[]] }, W1, 41, #[.pointer (some ⟨t, 0, none⟩), .func (.yield l) #[] #[]], W1, run_enterLoop_outer _ _ _ _ _, ?_, fun _ _ => trivial, ?_, fun _ => by decide, ?_⟩
  · simp only [resolve, hg]
    simp [go_sem]
  · simp [invoke, go_sem]
  have keep : ∀ {W W' : World}, W.grownBy W' none → ∀ {k : Nat} {o : Obj}, W.heap[k]? = some o → W'.heap[k]? = some o := fun hg k o hk => (hg.block k (Array.getElem?_eq_some_iff.1 hk).1 (by simp)).trans hk
  refine (each_in l (fun k W => I k W ∧ W.heap[l]? = some (rec_ .ready none) ∧ W.heap[w.heap.size]? = some (.deferred (some [])))
    (fun W => Ix W ∧ W.heap[l]? = some (rec_ .done (some .ret)) ∧ W.heap[w.heap.size]? = some (.deferred (some [])))
    (fun k W h => hR k W h.1) hv hn (fun k W W' h hg => ⟨hI k W W' h.1 ⟨none, hg, fun r e => by cases e⟩, keep hg h.2.1, keep hg h.2.2⟩) ?_ W1 ⟨hstart, hL, hD⟩).mono ?_
  · rintro k W hk ⟨hi, hl, hd⟩
    have hy : (Instr.yield l #[.int .i64 (k : Int), ea rv k]).run Try.prog W = .ok (.round l fn ((a.tmps.setIfInBounds p0 (.int .i64 (k : Int))).setIfInBounds p1 (ea rv k)) assign body) W := by
      rw [run_yield hl rfl]; simp
    refine ⟨fn, _, assign, body, hy, roundIn_of_wpIn hfn (wpIn_mono (hround l k W hk hi) ?_)⟩
    rintro e a' Wa he
    cases e with
    | ret => exact he.elim
    | exit id => exact he.elim
    | goto t => exact he.elim
    | panic ch => exact he.elim
    | outgrown => exact he.elim
    | normal =>
    obtain ⟨rfl, hbody⟩ := he.out
    have hla := hl
    have hda := hd
    refine ⟨_, run_beginRound hla rfl, ?_⟩
    have hlt := (Array.getElem?_eq_some_iff.1 hla).1
    have c2 : Calm w.heap.size Wa (Wa.putObj l (rec_ .busy none)) := Calm.put _ (by omega) hla rfl
    have hl2 : (Wa.putObj l (rec_ .busy none)).heap[l]? = some (rec_ .busy none) := World.putObj_heap_same hlt
    have hd2 : (Wa.putObj l (rec_ .busy none)).heap[w.heap.size]? = some (.deferred (some [])) := (World.putObj_heap_other (by omega)).trans hda
    refine wpIn_mono (hbody _ (hI k _ _ hi c2)) ?_
    have fin : ∀ (jump : Option Code) (W3 : World), KeepsFrom w.heap.size (Wa.putObj l (rec_ .busy none)) W3 →
        (Instr.endRound l jump).run Try.prog W3 = .ok (.bool jump.isNone) (W3.putObj l (rec_ (if jump.isNone then .ready else .done) jump)) ∧ Calm w.heap.size W3 (W3.putObj l (rec_ (if jump.isNone then .ready else .done) jump)) ∧
        (W3.putObj l (rec_ (if jump.isNone then .ready else .done) jump)).heap[l]? = some (rec_ (if jump.isNone then .ready else .done) jump) ∧ (W3.putObj l (rec_ (if jump.isNone then .ready else .done) jump)).heap[w.heap.size]? = some (.deferred (some [])) := fun jump W3 hk3 => by
      have hl3 := hk3.same l _ (by omega) hl2 rfl
      exact ⟨run_endRound jump hl3, Calm.put _ (by omega) hl3 rfl, World.putObj_heap_same (Array.getElem?_eq_some_iff.1 hl3).1, (World.putObj_heap_other (by omega)).trans (hk3.same _ _ (Nat.le_refl _) hd2 rfl)⟩
    rintro e a3 W3 hp
    cases e with
    | normal =>
      obtain ⟨hk3, hi3⟩ := hp
      obtain ⟨hr, hc, hl4, hd4⟩ := fin none W3 hk3
      exact ⟨_, _, hr, .inl ⟨rfl, hI _ _ _ hi3 hc, hl4, hd4⟩⟩
    | ret =>
      obtain ⟨hk3, hi3⟩ := hp
      obtain ⟨hr, hc, hl4, hd4⟩ := fin (some .ret) W3 hk3
      exact ⟨_, _, hr, .inr ⟨rfl, hIx _ _ hi3 hc, hl4, hd4⟩⟩
    | exit id => exact hp.elim
    | goto t => exact hp.elim
    | panic ch => exact hp.elim
    | outgrown => exact hp.elim
  · rintro e W2 ⟨⟨v, rfl⟩, (⟨hi, hl, hd⟩ | ⟨hi, hl, hd⟩)⟩
    · exact ⟨none, _, run_endLoop hl (fun h => by cases h), hdone _ _ (Nat.le_refl _) (hI _ _ _ hi (Calm.put _ (by omega) hl rfl)) ((World.putObj_heap_other (by omega)).trans hd)⟩
    · exact ⟨some .ret, _, run_endLoop hl (fun h => by cases h), hstop _ _ (Nat.le_refl _) (hIx _ _ hi (Calm.put _ (by omega) hl rfl)) ((World.putObj_heap_other (by omega)).trans hd)⟩
theorem No.row {D : Nat → Prop} {w : World} {t f : Nat} {rv : Value} {P : List CV} {nx : Int} {n : Nat} {L : List Ch} {fs : Nat → Int} {m : Int} (h : No D w t f rv P nx n L fs m) : (∃ cap, rv = .slice none 0 cap ∧ L.length = 0) ∨ ∃ g oo cap, rv = .slice (some ⟨g, oo, none⟩) L.length cap := by
  rw [← h.len]
  rcases h.rw_ with ⟨rfl, rfl⟩ | ⟨g, oo, cap, cur, rfl, _⟩
  · exact .inl ⟨0, rfl, rfl⟩
  · exact .inr ⟨g, oo, cap, rfl⟩
theorem No.place {D : Nat → Prop} {w : World} {t f : Nat} {rv : Value} {P : List CV} {nx : Int} {n : Nat} {L : List Ch} {fs : Nat → Int} {m : Int} (h : No D w t f rv P nx n L fs m) {k : Nat} (hk : k < L.length) : ∃ g o, Pl rv k g o ∧ ea rv k = .pointer (some ⟨g, o, none⟩) := by
  obtain ⟨g, o, hp⟩ := h.rw_.place (by rw [h.len]; exact hk)
  exact ⟨g, o, hp, hp.ea⟩
end Go.Proofs.Ytjceeckcfjjkkaa.Ob
