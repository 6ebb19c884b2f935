/-
  Both boxes side by side: an act on both (Put, Again, Timeout, nothing).
  Conditions: both boxes lie in memory, what comes in can be read.
-/
import Derived.Test.YtjceeckcfjjkkaaOeL
import Derived.Test.YtjceeckcfjjkkaaOdE
import Derived.Test.YtjceeckcfjjkkaaOdG
import Derived.Test.YtjceeckcfjjkkaaObX
import Derived.Test.YtjceeckcfjjkkaaObZ
import Derived.Test.YtjceeckcfjjkkaaOcD
namespace Go.Proofs.Ytjceeckcfjjkkaa.Ob
open Go.ChangeShapes Go.WideShapes Go.ChangeAt Go.RowKit
open Ba (hidden Has cell_lt heap_lt)
set_option linter.unusedVariables false
/-- both boxes: what the code's holds, what the document's holds -/
structure B2 (w0 w : World) (t r : Nat) (S S' : St) : Prop where
  bl : Below w0.heap.size w0 w
  no : ∃ f rv P, No (fun k => w0.heap.size ≤ k) w t f rv P (nextS S) S.n S.L (fun k => fl S.L k) (Ob.mk S.L) ∧ ∀ k, FC t f rv k → w0.heap.size ≤ k
  ro : ∃ v P, Ro (fun k => w0.heap.size ≤ k) w r v P S'.n S'.c S'.L ∧ ∀ k, FD r v k → w0.heap.size ≤ k
abbrev Bx (w0 w : World) (t r : Nat) (S : St) : Prop := B2 w0 w t r S S
section
variable {w0 w w' : World} {t r f f' : Nat} {S S' S1 : St} {rv rv' v v' : Value} {P P' : List CV} {F : Nat → Prop} {nx m c : Int} {n : Nat} {L : List Ch} {fs : Nat → Int}
theorem B2.later (h : B2 w0 w t r S S') (hB : Below w.heap.size w w') : B2 w0 w' t r S S' := by
  obtain ⟨f, rv, P, hN, hF⟩ := h.no
  obtain ⟨v, P', hR, hG⟩ := h.ro
  exact ⟨h.bl.trans (hB.mono h.bl.size), ⟨f, rv, P, hN.later hB, hF⟩, ⟨v, P', hR.later hB, hG⟩⟩
/-- a block that is no box's -/
theorem B2.other (h : B2 w0 w t r S S') {b : Nat} {cs : Array Value} {ty : TypeId} (hh : Has w b cs ty) (hb : w0.heap.size ≤ b) (h1 : ty ≠ 80 ∧ ty ≠ 3 ∧ ty ≠ 108 ∧ ty ≠ 91 ∧ ty ≠ 59 ∧ ty ≠ 5) (hm : Mod (fun k => k = b) w w') : B2 w0 w' t r S S' := by
  obtain ⟨f, rv, P, hN, hF⟩ := h.no
  obtain ⟨v, P', hR, hG⟩ := h.ro
  obtain ⟨e1, e2, e3, e4, e5, e6⟩ := h1
  refine ⟨h.bl.trans (hm.below h.bl.size (fun j hj => by omega)), ⟨f, rv, P, hN.stay hm (fun k hk e => ?_) (fun k cur _ hk e => by subst e; exact e6 (has_type hh hk)), hF⟩, ⟨v, P', hR.stay hm (fun k hk e => ?_) (fun k cur _ hk e => by subst e; exact e6 (has_type hh hk)), hG⟩⟩
  · subst e
    obtain ⟨cs', ty', hh', e'⟩ := hN.type hk
    have := has_type hh hh'
    subst this
    rcases e' with e' | e' | e'
    · exact e1 e'
    · exact e2 e'
    · exact e3 e'
  · subst e
    obtain ⟨cs', ty', hh', e'⟩ := hR.type hk
    have := has_type hh hh'
    subst this
    rcases e' with e' | e'
    · exact e4 e'
    · exact e5 e'
/-- the code's box has turned -/
theorem B2.code (h : B2 w0 w t r S S') (hN : No (fun k => w0.heap.size ≤ k) w t f rv P (nextS S) S.n S.L (fun k => fl S.L k) (Ob.mk S.L)) (hF : ∀ k, FC t f rv k → w0.heap.size ≤ k) (hm : Mod (FC t f rv) w w') (hN' : ∃ P', No (fun k => w0.heap.size ≤ k) w' t f rv' P' (nextS S1) S1.n S1.L (fun k => fl S1.L k) (Ob.mk S1.L)) (ho : ∀ k, rv'.ownBlock = some k → rv.ownBlock = some k ∨ w.heap.size ≤ k) : B2 w0 w' t r S1 S' := by
  obtain ⟨v, P', hR, hG⟩ := h.ro
  obtain ⟨P2, hN2⟩ := hN'
  refine ⟨h.bl.trans (hm.below h.bl.size hF), ⟨f, rv', P2, hN2, fun k hk => ?_⟩, ⟨v, P', hR.code hN hm, hG⟩⟩
  rcases hk with rfl | rfl | hk
  · exact hF k (.inl rfl)
  · exact hF k (.inr (.inl rfl))
  · rcases ho k hk with h2 | h2
    · exact hF k (.inr (.inr h2))
    · exact Nat.le_trans h.bl.size h2
/-- the document's box has turned -/
theorem B2.docc (h : B2 w0 w t r S S') (hR : Ro (fun k => w0.heap.size ≤ k) w r v P S'.n S'.c S'.L) (hG : ∀ k, FD r v k → w0.heap.size ≤ k) (hm : Mod (FD r v) w w') (hR' : ∃ P', Ro (fun k => w0.heap.size ≤ k) w' r v' P' S1.n S1.c S1.L) (ho : ∀ k, v'.ownBlock = some k → v.ownBlock = some k ∨ w.heap.size ≤ k) : B2 w0 w' t r S S1 := by
  obtain ⟨f, rv, P', hN, hF⟩ := h.no
  obtain ⟨P2, hR2⟩ := hR'
  refine ⟨h.bl.trans (hm.below h.bl.size hG), ⟨f, rv, P', No.doc hR hN hm, hF⟩, ⟨v', P2, hR2, fun k hk => ?_⟩⟩
  rcases hk with rfl | hk
  · exact hG k (.inl rfl)
  · rcases ho k hk with h2 | h2
    · exact hG k (.inr h2)
    · exact Nat.le_trans h.bl.size h2
/-- a block of another type stays, whichever box has turned -/
theorem No.far (hN : No F w t f rv P nx n L fs m) {b : Nat} {cs : Array Value} {ty : TypeId} (hh : Has w b cs ty) (h1 : ty ≠ 80 ∧ ty ≠ 3 ∧ ty ≠ 108) (hm : Mod (FC t f rv) w w') : Has w' b cs ty := hm.has hh fun hk => by
  obtain ⟨cs', ty', hh', e'⟩ := hN.type hk
  have := has_type hh hh'
  subst this
  rcases e' with e' | e' | e'
  · exact h1.1 e'
  · exact h1.2.1 e'
  · exact h1.2.2 e'
theorem Ro.far (hR : Ro F w r v P n c L) {b : Nat} {cs : Array Value} {ty : TypeId} (hh : Has w b cs ty) (h1 : ty ≠ 91 ∧ ty ≠ 59) (hm : Mod (FD r v) w w') : Has w' b cs ty := hm.has hh fun hk => by
  obtain ⟨cs', ty', hh', e'⟩ := hR.type hk
  have := has_type hh hh'
  subst this
  rcases e' with e' | e'
  · exact h1.1 e'
  · exact h1.2 e'
end
/-- what an act comes to: a chunk more, or what was kept is kept or freed -/
def Stp (S : St) (o : OA) (S' : St) (fr : Int) : Prop :=
  (o.kd = 1 ∧ S'.n = S.n ∧ S'.c = S.c ∧ fr = 0 ∧ ∃ x, S'.L = S.L ++ [x] ∧ x.st = 1 ∧ x.p.d = o.p.m.zs) ∨ ((o.kd = 1 → S' = S) ∧ S'.n = S.n ∧ kp S'.L + fr = kp S.L)
def opv (o : OA) : Value := .agg (ocell o).toArray
def AcO (K : Nat) (w0 w' : World) (t r : Nat) (S : St) (o : OA) (e : Ending) : Prop :=
  ∃ S' fr a l c rn, e = .returned (.tuple #[.agg #[.slice a l c, .int .i64 fr, .int .i64 rn], .bool true]) ∧ Stp S o S' fr ∧ Good (K + 1) S' ∧ Bx w0 w' t r S'
/-- worlds within an act -/
structure AcW (w0 w X : World) (t r : Nat) (S S' : St) (o : OA) : Prop where
  b2 : B2 w0 X t r S S'
  ob : Has X w.heap.size (ocell o).toArray 50
  rb : Has X (w.heap.size + 1) #[.slice none 0 0, .int .i64 0, .int .i64 0] 34
  le : w0.heap.size ≤ w.heap.size
section
variable {K : Nat} {w0 w X X' : World} {t r f : Nat} {S S' S1 : St} {rv rv' v v' : Value} {P P' : List CV} {o : OA}
theorem AcW.later (h : AcW w0 w X t r S S' o) (hB : Below X.heap.size X X') : AcW w0 w X' t r S S' o := ⟨h.b2.later hB, h.ob.later hB, h.rb.later hB, h.le⟩
theorem AcW.code (h : AcW w0 w X t r S S' o) (hN : No (fun k => w0.heap.size ≤ k) X t f rv P (nextS S) S.n S.L (fun k => fl S.L k) (Ob.mk S.L)) (hF : ∀ k, FC t f rv k → w0.heap.size ≤ k) (hm : Mod (FC t f rv) X X') (hN' : ∃ P', No (fun k => w0.heap.size ≤ k) X' t f rv' P' (nextS S1) S1.n S1.L (fun k => fl S1.L k) (Ob.mk S1.L)) (ho : ∀ k, rv'.ownBlock = some k → rv.ownBlock = some k ∨ X.heap.size ≤ k) : AcW w0 w X' t r S1 S' o :=
  ⟨h.b2.code hN hF hm hN' ho, hN.far h.ob (by decide) hm, hN.far h.rb (by decide) hm, h.le⟩
theorem AcW.docc (h : AcW w0 w X t r S S' o) (hR : Ro (fun k => w0.heap.size ≤ k) X r v P S'.n S'.c S'.L) (hG : ∀ k, FD r v k → w0.heap.size ≤ k) (hm : Mod (FD r v) X X') (hR' : ∃ P', Ro (fun k => w0.heap.size ≤ k) X' r v' P' S1.n S1.c S1.L) (ho : ∀ k, v'.ownBlock = some k → v.ownBlock = some k ∨ X.heap.size ≤ k) : AcW w0 w X' t r S S1 o :=
  ⟨h.b2.docc hR hG hm hR' ho, hR.far h.ob (by decide) hm, hR.far h.rb (by decide) hm, h.le⟩
theorem AcW.fin (h : AcW w0 w X t r S S' o) (hm : Mod (fun k => k = w.heap.size + 1) X X') : B2 w0 X' t r S S' :=
  h.b2.other h.rb (by have := h.le; omega) (by decide) hm
theorem Stp.same (h : Good K S) (o : OA) : Stp S o S 0 := .inr ⟨fun _ => rfl, rfl, by omega⟩
theorem up_kp (L : List Ch) (g : Nat → Ch → Ch) (hg : ∀ i x, kpF (g i x) = kpF x) : kp (up L.length g L) = kp L := by
  rw [up_full]
  have h := sI_const kpF (L.mapIdx g) (L.mapIdx g).length
  rw [List.take_length] at h
  have h2 := sI_const kpF L L.length
  rw [List.take_length] at h2
  unfold kp
  rw [← h, ← h2, List.length_mapIdx, sI_mapIdx]
  exact sI_congr L _ (fun i x _ _ => hg i x)
def tmS (S : St) (p : Int) : St := ⟨S.n, S.c, up S.L.length (tmF p) S.L⟩
theorem next_tm (S : St) (p : Int) : nextS (tmS S p) = nextS S := by unfold nextS tmS; rw [up_len]
theorem tmF_all (p : Int) (i : Nat) (x : Ch) : (tmF p i x).ts = x.ts ∧ (tmF p i x).pa = x.pa ∧ (tmF p i x).p = x.p ∧ (tmF p i x).ti = x.ti ∧ (tmF p i x).se = x.se ∧ (tmF p i x).qu = x.qu ∧ ((tmF p i x).mi = x.mi ∨ (tmF p i x).mi = 0) ∧ ((tmF p i x).st = x.st ∨ (tmF p i x).st = 2) := by
  unfold tmF
  split <;> simp
theorem Good.tm (h : Good K S) (hK : K + 1 ≤ 1000) (p : Int) : Good (K + 1) (tmS S p) := by
  refine ⟨hK, h.n1, h.n8, h.c0, h.c1, by show (up _ _ _).length ≤ _; rw [up_len]; have := h.len; omega, fun y hy => ?_, fun i y hy => ?_⟩
  · obtain ⟨i, hi⟩ := List.mem_iff_getElem?.1 hy
    have hi : (up S.L.length (tmF p) S.L)[i]? = some y := hi
    rw [up_at] at hi
    cases hx : S.L[i]? with
    | none => rw [hx] at hi; cases hi
    | some x =>
      rw [hx] at hi
      have hl := (List.getElem?_eq_some_iff.1 hx).1
      simp only [Option.map_some, Option.some.injEq, if_pos hl] at hi
      subst hi
      have g := (h.ch x (List.mem_of_getElem? hx)).mono (Nat.le_succ K)
      obtain ⟨e1, e2, e3, e4, e5, e6, e7, e8⟩ := tmF_all p i x
      exact ⟨by rw [e2]; exact g.pa0, by rw [e2]; exact g.pan, by rw [e4]; exact g.ti0, by rw [e4]; exact g.tiK, by rw [e5]; exact g.se0, by rw [e5]; exact g.se1, by rcases e7 with e | e <;> rw [e] <;> first | exact g.mi0 | omega, by rcases e7 with e | e <;> rw [e] <;> first | exact g.miK | omega, fun hq => by rw [e6] at hq; have := g.mq hq; rcases e7 with e | e <;> rw [e] <;> omega, by have := g.st1; rcases e8 with e | e <;> rw [e] <;> omega, by have := g.st4; rcases e8 with e | e <;> rw [e] <;> omega, by rw [e3]; exact g.d1, by rw [e3]; exact g.d2⟩
  · have hy : (up S.L.length (tmF p) S.L)[i]? = some y := hy
    rw [up_at] at hy
    cases hx : S.L[i]? with
    | none => rw [hx] at hy; cases hy
    | some x =>
      rw [hx] at hy
      simp only [Option.map_some, Option.some.injEq] at hy
      subst hy
      have := h.ts i x hx
      split
      · rw [(tmF_all p i x).1]; exact this
      · exact this
theorem tm_stp (h : Good K S) (o : OA) (ho : o.kd ≠ 1) (p : Int) : Stp S o (tmS S p) 0 := .inr ⟨fun e => absurd e ho, rfl, by
  show kp (up S.L.length (tmF p) S.L) + 0 = _
  rw [up_kp _ _ (fun i x => by
    unfold tmF
    split
    · rename_i h1; exact kpF_set x rfl ⟨fun e => absurd e (by simp), fun e => by rw [h1.1] at e; exact absurd e (by decide)⟩
    · rfl)]
  omega⟩
def agS (S : St) (i : Nat) (y : Ch) : St := ⟨S.n, S.c, S.L.set i y⟩
theorem next_ag (S : St) (i : Nat) (y : Ch) : nextS (agS S i y) = nextS S := by unfold nextS agS; rw [List.length_set]
theorem Good.ag (h : Good K S) (hK : K + 1 ≤ 1000) {i : Nat} {x : Ch} (hx : S.L[i]? = some x) (pa now : Int) (hpa : 0 ≤ pa ∧ pa < (S.n : Int)) (hnow : 0 ≤ now ∧ now ≤ 1099511627776) : Good (K + 1) (agS S i (agC x pa now)) := by
  have g := h.ch x (List.mem_of_getElem? hx)
  refine ⟨hK, h.n1, h.n8, h.c0, h.c1, by show (S.L.set _ _).length ≤ _; rw [List.length_set]; have := h.len; omega, fun y hy => ?_, fun j y hy => ?_⟩
  · rcases List.mem_or_eq_of_mem_set hy with hy | rfl
    · exact (h.ch y hy).mono (Nat.le_succ K)
    · exact ⟨hpa.1, hpa.2, by show 1 ≤ x.ti + 1; have := g.ti0; omega, by show x.ti + 1 ≤ _; have := g.tiK; omega, hnow.1, hnow.2, Int.le_refl _, by show (0 : Int) ≤ _; omega, fun _ => by show (0 : Int) ≤ 2; omega, by show (1 : Int) ≤ 1; omega, by show (1 : Int) ≤ 4; omega, g.d1, g.d2⟩
  · have hy : (S.L.set i (agC x pa now))[j]? = some y := hy
    rw [List.getElem?_set] at hy
    by_cases e : i = j
    · subst e
      have hl := (List.getElem?_eq_some_iff.1 hx).1
      rw [if_pos rfl, if_pos hl] at hy
      cases hy
      exact h.ts i x hx
    · rw [if_neg e] at hy
      exact h.ts j y hy
theorem ag_stp (h : Good K S) (o : OA) (ho : o.kd ≠ 1) {i : Nat} {x : Ch} (hx : S.L[i]? = some x) (h2 : x.st = 2) (pa now : Int) : Stp S o (agS S i (agC x pa now)) 0 := .inr ⟨fun e => absurd e ho, rfl, by
  show sm kpF (S.L.set i (agC x pa now)) + 0 = sm kpF S.L
  rw [sm_set S.L i x hx, kpF_set x (y := agC x pa now) rfl ⟨fun e => absurd e (by show ¬ ((1 : Int) = 4); decide), fun e => by rw [h2] at e; exact absurd e (by decide)⟩]
  omega⟩
def putC (S : St) (o : OA) : Ch := ⟨nextS S, o.pa, 1, o.now, 0, false, 1, ⟨o.p.m.st, o.p.m.sn, o.p.m.pr, o.p.m.un, o.p.m.zs, o.p.bg, o.p.en⟩⟩
def puS (S : St) (o : OA) : St := ⟨S.n, S.c, S.L ++ [putC S o]⟩
theorem next_pu (S : St) (o : OA) : nextS (puS S o) = (nextS S + 1) % 4294967296 := by
  unfold nextS puS
  simp only [List.length_append, List.length_cons, List.length_nil]
  omega
theorem Good.pu (h : Good K S) (hK : K + 1 ≤ 1000) (o : OA) (hpa : 0 ≤ o.pa ∧ o.pa < (S.n : Int)) (hnow : 0 ≤ o.now ∧ o.now ≤ 1099511627776) (h1 : 1 ≤ o.p.m.zs.length) (h2 : o.p.m.zs.length ≤ 65536) : Good (K + 1) (puS S o) := by
  refine ⟨hK, h.n1, h.n8, h.c0, h.c1, by show (S.L ++ [_]).length ≤ _; rw [List.length_append]; have := h.len; simp; omega, fun y hy => ?_, fun j y hy => ?_⟩
  · rcases List.mem_append.1 hy with hy | hy
    · exact (h.ch y hy).mono (Nat.le_succ K)
    · simp at hy
      subst hy
      exact ⟨hpa.1, hpa.2, by show (1 : Int) ≤ 1; omega, by show (1 : Int) ≤ _; omega, hnow.1, hnow.2, Int.le_refl _, by show (0 : Int) ≤ _; omega, fun _ => by show (0 : Int) ≤ 2; omega, by show (1 : Int) ≤ 1; omega, by show (1 : Int) ≤ 4; omega, h1, h2⟩
  · have hy : (S.L ++ [putC S o])[j]? = some y := hy
    by_cases e : j < S.L.length
    · rw [List.getElem?_append_left e] at hy
      exact h.ts j y hy
    · rw [List.getElem?_append_right (by omega)] at hy
      have hj : j - S.L.length = 0 := by
        have := (List.getElem?_eq_some_iff.1 hy).1
        simp at this
        omega
      rw [hj] at hy
      simp at hy
      subst hy
      show nextS S = (S.c + 1 + (j : Int)) % 4294967296
      unfold nextS
      rw [show j = S.L.length by omega]
      omega
theorem pu_stp (S : St) (o : OA) (ho : o.kd = 1) : Stp S o (puS S o) 0 := .inl ⟨ho, rfl, rfl, rfl, putC S o, rfl, rfl, rfl⟩
theorem fst_unique {q : Ch → Prop} {L : List Ch} {i j : Nat} {x y : Ch} (h : Fst q L i x) (k : Fst q L j y) : i = j ∧ x = y := by
  obtain ⟨h1, h2, h3⟩ := h
  obtain ⟨k1, k2, k3⟩ := k
  rcases Nat.lt_trichotomy i j with e | e | e
  · exact absurd h2 (k3 i x e h1)
  · subst e
    rw [h1] at k1
    cases k1
    exact ⟨rfl, rfl⟩
  · exact absurd k2 (h3 j y e k1)
theorem fst_of {L : List Ch} (h : ∃ x ∈ L, x.st = 2) : ∃ x i, Fst (fun x : Ch => x.st = 2) L i x := by
  induction L with
  | nil => obtain ⟨x, h, _⟩ := h; cases h
  | cons z L ih =>
    by_cases hz : z.st = 2
    · exact ⟨z, 0, rfl, hz, fun j y hj => absurd hj (Nat.not_lt_zero _)⟩
    · obtain ⟨x, hx, h2⟩ := h
      have hx : x ∈ L := by
        rcases List.mem_cons.1 hx with rfl | hx
        · exact absurd h2 hz
        · exact hx
      obtain ⟨x', i, h1, h3, h4⟩ := ih ⟨x, hx, h2⟩
      refine ⟨x', i + 1, by simpa using h1, h3, fun j y hj hy => ?_⟩
      cases j with
      | zero => simp at hy; subst hy; exact hz
      | succ j => exact h4 j y (by omega) (by simpa using hy)
theorem Own2 {w : World} (o : OA) (h : B2 w0 w t r S S) : AcW w0 w ((w.alloc (.cells (ocell o).toArray 50)).alloc (.cells #[.slice none 0 0, .int .i64 0, .int .i64 0] 34)) t r S S o := by
  have hB1 : Below w.heap.size w (w.alloc (.cells (ocell o).toArray 50)) := (Below.refl _ _).alloc (Nat.le_refl _) _
  have hB2 : Below (w.alloc (.cells (ocell o).toArray 50)).heap.size (w.alloc (.cells (ocell o).toArray 50)) ((w.alloc (.cells (ocell o).toArray 50)).alloc (.cells #[.slice none 0 0, .int .i64 0, .int .i64 0] 34)) := (Below.refl _ _).alloc (Nat.le_refl _) _
  refine ⟨(h.later hB1).later hB2, (Has.new _ _ _).later hB2, ?_, h.bl.size⟩
  have := Has.new (w.alloc (.cells (ocell o).toArray 50)) #[.slice none 0 0, .int .i64 0, .int .i64 0] 34
  simp only [World.size_alloc] at this
  exact this
set_option maxRecDepth 8000 in
set_option maxHeartbeats 4000000 in
theorem act_none (h : Bx w0 w t r S) (hG : Good K S) (hK : K + 1 ≤ 1000) (o : OA) (ho : OkO w0 o) (hk : ¬ (o.kd = 1 ∨ o.kd = 2 ∨ o.kd = 3 ∨ o.kd = 4)) :
    Calls Try.prog 12 #[.pointer (some ⟨t, 0, none⟩), .pointer (some ⟨r, 0, none⟩), opv o] w fun e w' => AcO K w0 w' t r S o e := by
  obtain ⟨W1, hW1⟩ : ∃ W1, W1 = (w.alloc (.cells (ocell o).toArray 50)).alloc (.cells #[.slice none 0 0, .int .i64 0, .int .i64 0] 34) := ⟨_, rfl⟩
  have hA1 := Own2 o h
  rw [← hW1] at hA1
  have HA1 := hidden hA1
  have HGG := hidden hG
  have HKK := hidden hK
  have HOO := hidden ho
  have HHK := hidden hk
  unfold ocell at hW1
  have HW1 := hidden hW1
  have l0 := hA1.ob.cell 0 (v := .int .i64 o.kd) rfl
  have l1 := hA1.ob.cell 1 (v := .int .i64 o.pa) rfl
  have l2 := hA1.ob.cell 2 (v := .int .i64 o.now) rfl
  have h1 : (o.kd == 1) = false := by simp; exact fun e => hk (.inl e)
  have h2 : (o.kd == 2) = false := by simp; exact fun e => hk (.inr (.inl e))
  have h3 : (o.kd == 3) = false := by simp; exact fun e => hk (.inr (.inr (.inl e)))
  have h4 : (o.kd == 4) = false := by simp; exact fun e => hk (.inr (.inr (.inr e)))
  clear h hG hK ho hk hA1 hW1
  unfold opv ocell
  go_enter Try.func12, Try.ntmps12
  go_upto_region 1 with fail
  rw [← HW1.out]
  have z0 := HA1.out.rb.cell 0 rfl
  have z1 := HA1.out.rb.cell 1 rfl
  have z2 := HA1.out.rb.cell 2 rfl
  have zf := HA1.out.rb.frozen
  go_wp2
  obtain ⟨y1, y2⟩ := set3 (v0 := .slice none 0 0) (v1 := .int .i64 0) (v2 := .int .i64 0) HA1.out.rb
  refine bodyPost_ret (res_ct rfl rfl y1) rfl ⟨S, 0, none, 0, 0, 0, rfl, (Stp.same HGG.out o), (HGG.out.mono (Nat.le_succ K) HKK.out), HA1.out.fin y2⟩
set_option maxRecDepth 8000 in
set_option maxHeartbeats 4000000 in
theorem act_timeout (h : Bx w0 w t r S) (hG : Good K S) (hK : K + 1 ≤ 1000) (o : OA) (ho : OkO w0 o) (hk : o.kd = 4) :
    Calls Try.prog 12 #[.pointer (some ⟨t, 0, none⟩), .pointer (some ⟨r, 0, none⟩), opv o] w fun e w' => AcO K w0 w' t r S o e := by
  obtain ⟨W1, hW1⟩ : ∃ W1, W1 = (w.alloc (.cells (ocell o).toArray 50)).alloc (.cells #[.slice none 0 0, .int .i64 0, .int .i64 0] 34) := ⟨_, rfl⟩
  have hA1 := Own2 o h
  rw [← hW1] at hA1
  have HA1 := hidden hA1
  have HGG := hidden hG
  have HKK := hidden hK
  have HOO := hidden ho
  have HHK := hidden hk
  unfold ocell at hW1
  have HW1 := hidden hW1
  have l0 := hA1.ob.cell 0 (v := .int .i64 o.kd) rfl
  have l1 := hA1.ob.cell 1 (v := .int .i64 o.pa) rfl
  have l2 := hA1.ob.cell 2 (v := .int .i64 o.now) rfl
  rw [hk] at l0
  clear h hG hK ho hk hA1 hW1
  unfold opv ocell
  go_enter Try.func12, Try.ntmps12
  go_upto_region 1 with fail
  rw [← HW1.out]
  by_cases hpa : 0 ≤ o.pa ∧ o.pa < (S.n : Int)
  · obtain ⟨f, rv, P, hN, hF⟩ := HA1.out.b2.no
    have TC := hidden (timeout_ok hN HGG.out.lk o.pa hpa)
    have HPA := hidden hpa
    go_wp2_with fail
    refine Calls.mono TC.out ?_
    rintro e X2 ⟨rfl, hNo, hm⟩
    have hA2 := HA1.out.code (S1 := tmS S o.pa) hN hF hm (by rw [next_tm]; exact hNo) (fun k hk => .inl hk)
    have HA2 := hidden hA2
    obtain ⟨v, P2, hR, hFD⟩ := HA2.out.b2.ro
    have TD := hidden (r_timeout hR HGG.out.lk o.pa hpa)
    have l1 := hA2.ob.cell 1 (v := .int .i64 o.pa) rfl
    have HFD := hidden hFD
    have HRR := hidden hR
    clear hNo hm hA2 hN hF hR hFD TC hpa l0 l2
    go_wp2_with fail
    refine Calls.mono TD.out ?_
    rintro e X3 ⟨rfl, hRo, hm⟩
    have HA3 := hidden (HA2.out.docc (S1 := tmS S o.pa) HRR.out HFD.out hm hRo (fun k hk => .inl hk))
    clear hRo hm TD HA2 l1
    have z0 := HA3.out.rb.cell 0 rfl
    have z1 := HA3.out.rb.cell 1 rfl
    have z2 := HA3.out.rb.cell 2 rfl
    have zf := HA3.out.rb.frozen
    go_wp2
    obtain ⟨y1, y2⟩ := set3 (v0 := .slice none 0 0) (v1 := .int .i64 0) (v2 := .int .i64 0) HA3.out.rb
    refine bodyPost_ret (res_ct rfl rfl y1) rfl ⟨tmS S o.pa, 0, none, 0, 0, 0, rfl, (tm_stp HGG.out o (by rw [HHK.out]; decide) o.pa), (HGG.out.tm HKK.out o.pa), HA3.out.fin y2⟩
  · obtain ⟨f, rv, P, hN, hF⟩ := HA1.out.b2.no
    have TC := hidden (timeout_path hN o.pa hpa)
    have HPA := hidden hpa
    go_wp2_with fail
    refine Calls.mono TC.out ?_
    rintro e X2 ⟨rfl, hB⟩
    have hA2 := HA1.out.later hB
    have HA2 := hidden hA2
    obtain ⟨v, P2, hR, hFD⟩ := HA2.out.b2.ro
    have TD := hidden (r_timeout_path hR o.pa hpa)
    have l1 := hA2.ob.cell 1 (v := .int .i64 o.pa) rfl
    clear hB hA2 hN hF hR hFD TC hpa l0 l2
    go_wp2_with fail
    refine Calls.mono TD.out ?_
    rintro e X3 ⟨rfl, rfl⟩
    clear TD l1
    have z0 := HA2.out.rb.cell 0 rfl
    have z1 := HA2.out.rb.cell 1 rfl
    have z2 := HA2.out.rb.cell 2 rfl
    have zf := HA2.out.rb.frozen
    go_wp2
    obtain ⟨y1, y2⟩ := set3 (v0 := .slice none 0 0) (v1 := .int .i64 0) (v2 := .int .i64 0) HA2.out.rb
    refine bodyPost_ret (res_ct rfl rfl y1) rfl ⟨S, 0, none, 0, 0, 0, rfl, (Stp.same HGG.out o), (HGG.out.mono (Nat.le_succ K) HKK.out), HA2.out.fin y2⟩
set_option maxRecDepth 8000 in
set_option maxHeartbeats 4000000 in
theorem act_put (h : Bx w0 w t r S) (hG : Good K S) (hK : K + 1 ≤ 1000) (o : OA) (ho : OkO w0 o) (hk : o.kd = 1) :
    Calls Try.prog 12 #[.pointer (some ⟨t, 0, none⟩), .pointer (some ⟨r, 0, none⟩), opv o] w fun e w' => AcO K w0 w' t r S o e := by
  obtain ⟨W1, hW1⟩ : ∃ W1, W1 = (w.alloc (.cells (ocell o).toArray 50)).alloc (.cells #[.slice none 0 0, .int .i64 0, .int .i64 0] 34) := ⟨_, rfl⟩
  have hA1 := Own2 o h
  rw [← hW1] at hA1
  have HA1 := hidden hA1
  have HGG := hidden hG
  have HKK := hidden hK
  have HOO := hidden ho
  have HHK := hidden hk
  unfold ocell at hW1
  have HW1 := hidden hW1
  have l0 := hA1.ob.cell 0 (v := .int .i64 o.kd) rfl
  have l1 := hA1.ob.cell 1 (v := .int .i64 o.pa) rfl
  have l2 := hA1.ob.cell 2 (v := .int .i64 o.now) rfl
  rw [hk] at l0
  have l3 := hA1.ob.cell 3 (v := .int .u16 o.p.m.st) rfl
  have l4 := hA1.ob.cell 4 (v := .int .u16 o.p.m.sn) rfl
  have l5 := hA1.ob.cell 5 (v := .int .u32 o.p.m.pr) rfl
  have l6 := hA1.ob.cell 6 (v := .bool o.p.m.un) rfl
  have l7 := hA1.ob.cell 7 (v := .slice o.p.m.a o.p.m.l o.p.m.c) rfl
  have l8 := hA1.ob.cell 8 (v := .bool o.p.bg) rfl
  have l9 := hA1.ob.cell 9 (v := .bool o.p.en) rfl
  clear h hG hK ho hk hA1 hW1
  unfold opv ocell
  go_enter Try.func12, Try.ntmps12
  go_upto_region 1 with fail
  rw [← HW1.out]
  obtain ⟨f, rv, P, hN, hF⟩ := HA1.out.b2.no
  by_cases hpa : 0 ≤ o.pa ∧ o.pa < (S.n : Int)
  case neg =>
    have TC := put_path hN o.pa o.now o.p.m.st o.p.m.sn o.p.m.pr o.p.m.un o.p.bg o.p.en o.p.m.a o.p.m.l o.p.m.c hpa
    unfold pv at TC
    have TC := hidden TC
    have H_hpa := hidden hpa
    clear hpa
    go_wp2_with fail
    clear l0 l1 l2 l3 l4 l5 l6 l7 l8 l9
    refine Calls.mono TC.out ?_
    rintro e X2 ⟨rfl, hB⟩
    have hA2 := HA1.out.later hB
    have HA2 := hidden hA2
    obtain ⟨v, P2, hR, hFD⟩ := HA2.out.b2.ro
    have TD := r_put_path hR o.pa o.now H_hpa.out (vl := o.p.m.l) (vc := o.p.m.c) o.p.m.st o.p.m.sn o.p.m.pr o.p.m.un o.p.bg o.p.en o.p.m.a
    unfold pv at TD
    have TD := hidden TD
    have l1 := hA2.ob.cell 1 (v := .int .i64 o.pa) rfl
    have l2 := hA2.ob.cell 2 (v := .int .i64 o.now) rfl
    have l3 := hA2.ob.cell 3 (v := .int .u16 o.p.m.st) rfl
    have l4 := hA2.ob.cell 4 (v := .int .u16 o.p.m.sn) rfl
    have l5 := hA2.ob.cell 5 (v := .int .u32 o.p.m.pr) rfl
    have l6 := hA2.ob.cell 6 (v := .bool o.p.m.un) rfl
    have l7 := hA2.ob.cell 7 (v := .slice o.p.m.a o.p.m.l o.p.m.c) rfl
    have l8 := hA2.ob.cell 8 (v := .bool o.p.bg) rfl
    have l9 := hA2.ob.cell 9 (v := .bool o.p.en) rfl
    clear hB hA2 hN hF hR hFD TC
    go_wp2_with fail
    clear l1 l2 l3 l4 l5 l6 l7 l8 l9
    refine Calls.mono TD.out ?_
    rintro e X3 ⟨rfl, hB⟩
    have HA3 := hidden (HA2.out.later hB)
    clear hB TD HA2
    have z0 := HA3.out.rb.cell 0 rfl
    have z1 := HA3.out.rb.cell 1 rfl
    have z2 := HA3.out.rb.cell 2 rfl
    have zf := HA3.out.rb.frozen
    go_wp2
    obtain ⟨y1, y2⟩ := set3 (v0 := .slice none 0 0) (v1 := .int .i64 0) (v2 := .int .i64 0) HA3.out.rb
    refine bodyPost_ret (res_ct rfl rfl y1) rfl ⟨S, 0, none, 0, 0, 0, rfl, (Stp.same HGG.out o), (HGG.out.mono (Nat.le_succ K) HKK.out), HA3.out.fin y2⟩
  case pos =>
    by_cases hnow : 0 ≤ o.now ∧ o.now ≤ 1099511627776
    case neg =>
      have TC := put_time hN o.pa o.now o.p.m.st o.p.m.sn o.p.m.pr o.p.m.un o.p.bg o.p.en o.p.m.a o.p.m.l o.p.m.c hpa hnow
      unfold pv at TC
      have TC := hidden TC
      have H_hpa := hidden hpa
      have H_hnow := hidden hnow
      clear hpa hnow
      go_wp2_with fail
      clear l0 l1 l2 l3 l4 l5 l6 l7 l8 l9
      refine Calls.mono TC.out ?_
      rintro e X2 ⟨rfl, hB⟩
      have hA2 := HA1.out.later hB
      have HA2 := hidden hA2
      obtain ⟨v, P2, hR, hFD⟩ := HA2.out.b2.ro
      have TD := r_put_time hR o.pa o.now H_hpa.out H_hnow.out (vl := o.p.m.l) (vc := o.p.m.c) o.p.m.st o.p.m.sn o.p.m.pr o.p.m.un o.p.bg o.p.en o.p.m.a
      unfold pv at TD
      have TD := hidden TD
      have l1 := hA2.ob.cell 1 (v := .int .i64 o.pa) rfl
      have l2 := hA2.ob.cell 2 (v := .int .i64 o.now) rfl
      have l3 := hA2.ob.cell 3 (v := .int .u16 o.p.m.st) rfl
      have l4 := hA2.ob.cell 4 (v := .int .u16 o.p.m.sn) rfl
      have l5 := hA2.ob.cell 5 (v := .int .u32 o.p.m.pr) rfl
      have l6 := hA2.ob.cell 6 (v := .bool o.p.m.un) rfl
      have l7 := hA2.ob.cell 7 (v := .slice o.p.m.a o.p.m.l o.p.m.c) rfl
      have l8 := hA2.ob.cell 8 (v := .bool o.p.bg) rfl
      have l9 := hA2.ob.cell 9 (v := .bool o.p.en) rfl
      clear hB hA2 hN hF hR hFD TC
      go_wp2_with fail
      clear l1 l2 l3 l4 l5 l6 l7 l8 l9
      refine Calls.mono TD.out ?_
      rintro e X3 ⟨rfl, hB⟩
      have HA3 := hidden (HA2.out.later hB)
      clear hB TD HA2
      have z0 := HA3.out.rb.cell 0 rfl
      have z1 := HA3.out.rb.cell 1 rfl
      have z2 := HA3.out.rb.cell 2 rfl
      have zf := HA3.out.rb.frozen
      go_wp2
      obtain ⟨y1, y2⟩ := set3 (v0 := .slice none 0 0) (v1 := .int .i64 0) (v2 := .int .i64 0) HA3.out.rb
      refine bodyPost_ret (res_ct rfl rfl y1) rfl ⟨S, 0, none, 0, 0, 0, rfl, (Stp.same HGG.out o), (HGG.out.mono (Nat.le_succ K) HKK.out), HA3.out.fin y2⟩
    case pos =>
      by_cases h0 : o.p.m.l = 0
      case pos =>
        have TC := put_few hN o.pa o.now o.p.m.st o.p.m.sn o.p.m.pr o.p.m.un o.p.bg o.p.en o.p.m.a o.p.m.l o.p.m.c hpa hnow (by omega)
        unfold pv at TC
        have TC := hidden TC
        have H_hpa := hidden hpa
        have H_hnow := hidden hnow
        have H_h0 := hidden h0
        clear hpa hnow h0
        go_wp2_with fail
        clear l0 l1 l2 l3 l4 l5 l6 l7 l8 l9
        refine Calls.mono TC.out ?_
        rintro e X2 ⟨rfl, hB⟩
        have hA2 := HA1.out.later hB
        have HA2 := hidden hA2
        obtain ⟨v, P2, hR, hFD⟩ := HA2.out.b2.ro
        have TD := r_put_few hR o.pa o.now H_hpa.out H_hnow.out (vl := o.p.m.l) (vc := o.p.m.c) H_h0.out o.p.m.st o.p.m.sn o.p.m.pr o.p.m.un o.p.bg o.p.en o.p.m.a
        unfold pv at TD
        have TD := hidden TD
        have l1 := hA2.ob.cell 1 (v := .int .i64 o.pa) rfl
        have l2 := hA2.ob.cell 2 (v := .int .i64 o.now) rfl
        have l3 := hA2.ob.cell 3 (v := .int .u16 o.p.m.st) rfl
        have l4 := hA2.ob.cell 4 (v := .int .u16 o.p.m.sn) rfl
        have l5 := hA2.ob.cell 5 (v := .int .u32 o.p.m.pr) rfl
        have l6 := hA2.ob.cell 6 (v := .bool o.p.m.un) rfl
        have l7 := hA2.ob.cell 7 (v := .slice o.p.m.a o.p.m.l o.p.m.c) rfl
        have l8 := hA2.ob.cell 8 (v := .bool o.p.bg) rfl
        have l9 := hA2.ob.cell 9 (v := .bool o.p.en) rfl
        clear hB hA2 hN hF hR hFD TC
        go_wp2_with fail
        clear l1 l2 l3 l4 l5 l6 l7 l8 l9
        refine Calls.mono TD.out ?_
        rintro e X3 ⟨rfl, hB⟩
        have HA3 := hidden (HA2.out.later hB)
        clear hB TD HA2
        have z0 := HA3.out.rb.cell 0 rfl
        have z1 := HA3.out.rb.cell 1 rfl
        have z2 := HA3.out.rb.cell 2 rfl
        have zf := HA3.out.rb.frozen
        go_wp2
        obtain ⟨y1, y2⟩ := set3 (v0 := .slice none 0 0) (v1 := .int .i64 0) (v2 := .int .i64 0) HA3.out.rb
        refine bodyPost_ret (res_ct rfl rfl y1) rfl ⟨S, 0, none, 0, 0, 0, rfl, (Stp.same HGG.out o), (HGG.out.mono (Nat.le_succ K) HKK.out), HA3.out.fin y2⟩
      case neg =>
        by_cases h9 : 65536 < o.p.m.l
        case pos =>
          have TC := put_many hN o.pa o.now o.p.m.st o.p.m.sn o.p.m.pr o.p.m.un o.p.bg o.p.en o.p.m.a o.p.m.l o.p.m.c hpa hnow h9
          unfold pv at TC
          have TC := hidden TC
          have H_hpa := hidden hpa
          have H_hnow := hidden hnow
          have H_h0 := hidden h0
          have H_h9 := hidden h9
          clear hpa hnow h0 h9
          go_wp2_with fail
          clear l0 l1 l2 l3 l4 l5 l6 l7 l8 l9
          refine Calls.mono TC.out ?_
          rintro e X2 ⟨rfl, hB⟩
          have hA2 := HA1.out.later hB
          have HA2 := hidden hA2
          obtain ⟨v, P2, hR, hFD⟩ := HA2.out.b2.ro
          have TD := r_put_many hR o.pa o.now H_hpa.out H_hnow.out (vl := o.p.m.l) (vc := o.p.m.c) H_h9.out o.p.m.st o.p.m.sn o.p.m.pr o.p.m.un o.p.bg o.p.en o.p.m.a
          unfold pv at TD
          have TD := hidden TD
          have l1 := hA2.ob.cell 1 (v := .int .i64 o.pa) rfl
          have l2 := hA2.ob.cell 2 (v := .int .i64 o.now) rfl
          have l3 := hA2.ob.cell 3 (v := .int .u16 o.p.m.st) rfl
          have l4 := hA2.ob.cell 4 (v := .int .u16 o.p.m.sn) rfl
          have l5 := hA2.ob.cell 5 (v := .int .u32 o.p.m.pr) rfl
          have l6 := hA2.ob.cell 6 (v := .bool o.p.m.un) rfl
          have l7 := hA2.ob.cell 7 (v := .slice o.p.m.a o.p.m.l o.p.m.c) rfl
          have l8 := hA2.ob.cell 8 (v := .bool o.p.bg) rfl
          have l9 := hA2.ob.cell 9 (v := .bool o.p.en) rfl
          clear hB hA2 hN hF hR hFD TC
          go_wp2_with fail
          clear l1 l2 l3 l4 l5 l6 l7 l8 l9
          refine Calls.mono TD.out ?_
          rintro e X3 ⟨rfl, hB⟩
          have HA3 := hidden (HA2.out.later hB)
          clear hB TD HA2
          have z0 := HA3.out.rb.cell 0 rfl
          have z1 := HA3.out.rb.cell 1 rfl
          have z2 := HA3.out.rb.cell 2 rfl
          have zf := HA3.out.rb.frozen
          go_wp2
          obtain ⟨y1, y2⟩ := set3 (v0 := .slice none 0 0) (v1 := .int .i64 0) (v2 := .int .i64 0) HA3.out.rb
          refine bodyPost_ret (res_ct rfl rfl y1) rfl ⟨S, 0, none, 0, 0, 0, rfl, (Stp.same HGG.out o), (HGG.out.mono (Nat.le_succ K) HKK.out), HA3.out.fin y2⟩
        case neg =>
          obtain ⟨pb, po, hpo⟩ := HOO.out.1.1.open (by omega)
          have hrow := HOO.out.1.1
          rw [hpo] at hrow l7
          have HPO := hidden hpo
          have hl1 : 1 ≤ o.p.m.l := by omega
          have hl2 : o.p.m.l ≤ 65536 := by omega
          have HLL := hidden (And.intro hl1 hl2)
          have HZL : Hid (o.p.m.zs.length = o.p.m.l) := hrow.1
          have HROW := hidden hrow
          have hcr := HGG.out.c0
          have hcr1 := HGG.out.c1
          have hlen := HGG.out.len
          have TC := put_ok hN HGG.out.lk (by have := HKK.out; omega) (fun k hk => Nat.le_trans HA1.out.b2.bl.size hk) o.pa o.now hpa hnow o.p.m.st o.p.m.sn o.p.m.pr o.p.m.un o.p.bg o.p.en pb po o.p.m.l o.p.m.c o.p.m.zs (hrow.later HA1.out.b2.bl) hl1 hl2
          unfold pv at TC
          have TC := hidden TC
          have HPN := hidden (And.intro hpa hnow)
          have HCL := hidden (And.intro hcr (And.intro hcr1 hlen))
          clear hpa hnow hcr hcr1 hlen hrow hpo hl1 hl2 h0 h9
          go_wp2_with fail
          clear l0 l1 l2 l3 l4 l5 l6 l7 l8 l9
          refine Calls.mono TC.out ?_
          rintro e X2 ⟨rfl, rv2, P3, hNo, hm, hown⟩
          have hA2 := HA1.out.code (S1 := puS S o) hN hF hm ⟨P3, by rw [next_pu]; exact hNo⟩ hown
          have HA2 := hidden hA2
          obtain ⟨v, P2, hR, hFD⟩ := HA2.out.b2.ro
          have TD := r_put hR ⟨HCL.out.1, HCL.out.2.1⟩ (by have := HCL.out.2.2; have := HKK.out; omega) (fun k hk => Nat.le_trans HA2.out.b2.bl.size hk) o.pa o.now HPN.out.1 HPN.out.2 o.p.m.st o.p.m.sn o.p.m.pr o.p.m.un o.p.bg o.p.en pb po o.p.m.l o.p.m.c o.p.m.zs (HROW.out.later HA2.out.b2.bl) HLL.out.1 HLL.out.2
          unfold pv at TD
          rw [← show nextS S = (S.c + (S.L.length : Int) + 1) % 4294967296 from rfl] at TD
          have TD := hidden TD
          have l1 := hA2.ob.cell 1 (v := .int .i64 o.pa) rfl
          have l2 := hA2.ob.cell 2 (v := .int .i64 o.now) rfl
          have l3 := hA2.ob.cell 3 (v := .int .u16 o.p.m.st) rfl
          have l4 := hA2.ob.cell 4 (v := .int .u16 o.p.m.sn) rfl
          have l5 := hA2.ob.cell 5 (v := .int .u32 o.p.m.pr) rfl
          have l6 := hA2.ob.cell 6 (v := .bool o.p.m.un) rfl
          have l7 := hA2.ob.cell 7 (v := .slice o.p.m.a o.p.m.l o.p.m.c) rfl
          have l8 := hA2.ob.cell 8 (v := .bool o.p.bg) rfl
          have l9 := hA2.ob.cell 9 (v := .bool o.p.en) rfl
          rw [HPO.out] at l7
          have HRR := hidden hR
          have HFD := hidden hFD
          clear hNo hm hown hA2 hN hF hR hFD TC
          go_wp2_with fail
          clear l1 l2 l3 l4 l5 l6 l7 l8 l9
          refine Calls.mono TD.out ?_
          rintro e X3 ⟨rfl, v2, P4, hRo, hm, hown⟩
          have HA3 := hidden (HA2.out.docc (S1 := puS S o) HRR.out HFD.out hm ⟨P4, hRo⟩ hown)
          clear hRo hm hown TD HA2
          have z0 := HA3.out.rb.cell 0 rfl
          have z1 := HA3.out.rb.cell 1 rfl
          have z2 := HA3.out.rb.cell 2 rfl
          have zf := HA3.out.rb.frozen
          go_wp2
          obtain ⟨y1, y2⟩ := set3 (v0 := .slice none 0 0) (v1 := .int .i64 0) (v2 := .int .i64 0) HA3.out.rb
          refine bodyPost_ret (res_ct rfl rfl y1) rfl ⟨puS S o, 0, none, 0, 0, 0, rfl, (pu_stp S o HHK.out), (HGG.out.pu HKK.out o HPN.out.1 HPN.out.2 (by rw [HZL.out]; exact HLL.out.1) (by rw [HZL.out]; exact HLL.out.2)), HA3.out.fin y2⟩
set_option maxRecDepth 8000 in
set_option maxHeartbeats 4000000 in
theorem act_again (h : Bx w0 w t r S) (hG : Good K S) (hK : K + 1 ≤ 1000) (o : OA) (ho : OkO w0 o) (hk : o.kd = 2) :
    Calls Try.prog 12 #[.pointer (some ⟨t, 0, none⟩), .pointer (some ⟨r, 0, none⟩), opv o] w fun e w' => AcO K w0 w' t r S o e := by
  obtain ⟨W1, hW1⟩ : ∃ W1, W1 = (w.alloc (.cells (ocell o).toArray 50)).alloc (.cells #[.slice none 0 0, .int .i64 0, .int .i64 0] 34) := ⟨_, rfl⟩
  have hA1 := Own2 o h
  rw [← hW1] at hA1
  have HA1 := hidden hA1
  have HGG := hidden hG
  have HKK := hidden hK
  have HOO := hidden ho
  have HHK := hidden hk
  unfold ocell at hW1
  have HW1 := hidden hW1
  have l0 := hA1.ob.cell 0 (v := .int .i64 o.kd) rfl
  have l1 := hA1.ob.cell 1 (v := .int .i64 o.pa) rfl
  have l2 := hA1.ob.cell 2 (v := .int .i64 o.now) rfl
  rw [hk] at l0
  clear h hG hK ho hk hA1 hW1
  unfold opv ocell
  go_enter Try.func12, Try.ntmps12
  go_upto_region 1 with fail
  rw [← HW1.out]
  obtain ⟨f, rv, P, hN, hF⟩ := HA1.out.b2.no
  by_cases hpa : 0 ≤ o.pa ∧ o.pa < (S.n : Int)
  case neg =>
    have TC := again_path hN o.pa o.now hpa
    obtain ⟨y, hy⟩ : ∃ y, y = zC := ⟨_, rfl⟩
    rw [← hy] at TC
    unfold ov at TC
    have HY := hidden hy
    have TC := hidden TC
    have H_hpa := hidden hpa
    clear hpa
    clear hy hN hF
    go_wp2_with fail
    clear l0 l1 l2
    refine Calls.mono TC.out ?_
    rintro e X2 ⟨rfl, hB⟩
    have HA2 := hidden (HA1.out.later hB)
    obtain ⟨a1, n1, c1, hac⟩ : ∃ (a1 : Option Addr) (n1 c1 : Nat), (Value.slice none 0 0) = .slice a1 n1 c1 ∧ a1 = none ∧ n1 = 0 := ⟨none, 0, 0, rfl, rfl, rfl⟩
    rw [hac.1]
    have HAC := hidden hac.2
    have HM2 : Hid (Row X2 a1 n1 y.p.d) := by rw [HAC.out.1, HAC.out.2, HY.out]; exact Row.nil _ _
    clear hB TC hac
    obtain ⟨b12, hb12⟩ : ∃ b12, b12 = X2.heap.size := ⟨_, rfl⟩
    go_upto_region 8 with fail
    obtain ⟨W3, hW3⟩ : ∃ W3, W3 = X2.alloc (.cells (oc y (.slice a1 n1 c1)) 59) := ⟨_, rfl⟩
    have hB3 : Below X2.heap.size X2 W3 := by rw [hW3]; exact (Below.refl _ _).alloc (Nat.le_refl _) _
    have H12 : Hid (Has W3 b12 (oc y (.slice a1 n1 c1)) 59) := by rw [hb12, hW3]; exact Has.new _ _ _
    have HA3 := hidden (HA2.out.later hB3)
    have HM3 := hidden (HM2.out.later hB3)
    have HNB : Hid (∀ v P2, Ro (fun k => w0.heap.size ≤ k) X2 r v P2 S.n S.c S.L → ∀ k, FD r v k → k < b12) := fun v P2 hR k hk => by rw [hb12]; exact hR.lt hk
    unfold oc at hW3
    rw [← hW3, ← hb12]
    obtain ⟨v, P2, hR2, hFD⟩ := HA2.out.b2.ro
    have hR := hR2.later hB3
    have HNC : Hid (∀ k, FD r v k → k < b12) := HNB.out v P2 hR2
    clear hB3 hW3 hb12 HNB hR2
    have TD := r_again_path hR o.pa o.now H_hpa.out
    rw [← HY.out] at TD
    unfold ov at TD
    have TD := hidden TD
    have HRR := hidden (And.intro hR hFD)
    have l1 := HA3.out.ob.cell 1 (v := .int .i64 o.pa) rfl
    have l2 := HA3.out.ob.cell 2 (v := .int .i64 o.now) rfl
    clear hR hFD
    go_wp2_with fail
    clear l1 l2
    refine Calls.mono TD.out ?_
    rintro e X4 ⟨rfl, hB⟩
    have HA4 := hidden (HA3.out.later hB)
    obtain ⟨a2, n2, c2, hac⟩ : ∃ (a2 : Option Addr) (n2 c2 : Nat), (Value.slice none 0 0) = .slice a2 n2 c2 ∧ a2 = none ∧ n2 = 0 := ⟨none, 0, 0, rfl, rfl, rfl⟩
    rw [hac.1]
    have HAC2 := hidden hac.2
    have HR1 := hidden (HM3.out.later hB)
    have HR2 : Hid (Row X4 a2 n2 y.p.d) := by rw [HAC2.out.1, HAC2.out.2, HY.out]; exact Row.nil _ _
    have H12b := hidden (H12.out.later hB)
    clear hB TD hac HA2 HA3 H12 HM3
    obtain ⟨b15, hb15⟩ : ∃ b15, b15 = X4.heap.size := ⟨_, rfl⟩
    go_upto_region 9 with fail
    obtain ⟨W5, hW5⟩ : ∃ W5, W5 = X4.alloc (.cells (oc y (.slice a2 n2 c2)) 59) := ⟨_, rfl⟩
    have hB5 : Below X4.heap.size X4 W5 := by rw [hW5]; exact (Below.refl _ _).alloc (Nat.le_refl _) _
    have h15 : Has W5 b15 (oc y (.slice a2 n2 c2)) 59 := by rw [hb15, hW5]; exact Has.new _ _ _
    have HA5 := hidden (HA4.out.later hB5)
    have SM := r_same (c := c1) (c' := c2) y (HR1.out.later hB5) (HR2.out.later hB5)
    unfold ov at SM
    have SM := hidden SM
    have h12 := H12b.out.later hB5
    have p0 := h12.cell 0 (v := .int .u32 y.ts) rfl
    have p1 := h12.cell 1 (v := .int .i64 y.pa) rfl
    have p2 := h12.cell 2 (v := .int .i64 y.ti) rfl
    have p3 := h12.cell 3 (v := .int .i64 y.se) rfl
    have p4 := h12.cell 4 (v := .int .i64 y.mi) rfl
    have p5 := h12.cell 5 (v := .bool y.qu) rfl
    have p6 := h12.cell 6 (v := .int .i64 y.st) rfl
    have p7 := h12.cell 7 (v := .int .u16 y.p.sm) rfl
    have p8 := h12.cell 8 (v := .int .u16 y.p.sn) rfl
    have p9 := h12.cell 9 (v := .int .u32 y.p.pr) rfl
    have p10 := h12.cell 10 (v := .bool y.p.un) rfl
    have p11 := h12.cell 11 (v := .slice a1 n1 c1) rfl
    have p12 := h12.cell 12 (v := .bool y.p.bg) rfl
    have p13 := h12.cell 13 (v := .bool y.p.en) rfl
    have s0 := h15.cell 0 (v := .int .u32 y.ts) rfl
    have s1 := h15.cell 1 (v := .int .i64 y.pa) rfl
    have s2 := h15.cell 2 (v := .int .i64 y.ti) rfl
    have s3 := h15.cell 3 (v := .int .i64 y.se) rfl
    have s4 := h15.cell 4 (v := .int .i64 y.mi) rfl
    have s5 := h15.cell 5 (v := .bool y.qu) rfl
    have s6 := h15.cell 6 (v := .int .i64 y.st) rfl
    have s7 := h15.cell 7 (v := .int .u16 y.p.sm) rfl
    have s8 := h15.cell 8 (v := .int .u16 y.p.sn) rfl
    have s9 := h15.cell 9 (v := .int .u32 y.p.pr) rfl
    have s10 := h15.cell 10 (v := .bool y.p.un) rfl
    have s11 := h15.cell 11 (v := .slice a2 n2 c2) rfl
    have s12 := h15.cell 12 (v := .bool y.p.bg) rfl
    have s13 := h15.cell 13 (v := .bool y.p.en) rfl
    unfold oc at hW5
    rw [← hW5, ← hb15]
    clear hB5 hW5 hb15 h15 h12
    go_wp2_with fail
    clear p0 s0 p1 s1 p2 s2 p3 s3 p4 s4 p5 s5 p6 s6 p7 s7 p8 s8 p9 s9 p10 s10 p11 s11 p12 s12 p13 s13
    refine Calls.mono SM.out ?_
    rintro e X6 ⟨rfl, hB6⟩
    have HA6 := hidden (HA5.out.later hB6)
    clear hB6
    have z0 := HA6.out.rb.cell 0 rfl
    have z1 := HA6.out.rb.cell 1 rfl
    have z2 := HA6.out.rb.cell 2 rfl
    have zf := HA6.out.rb.frozen
    go_wp2
    obtain ⟨y1, y2⟩ := set3 (v0 := .slice none 0 0) (v1 := .int .i64 0) (v2 := .int .i64 0) HA6.out.rb
    refine bodyPost_ret (res_ct rfl rfl y1) rfl ⟨S, 0, none, 0, 0, 0, rfl, (Stp.same HGG.out o), (HGG.out.mono (Nat.le_succ K) HKK.out), HA6.out.fin y2⟩
  case pos =>
    by_cases hnow : 0 ≤ o.now ∧ o.now ≤ 1099511627776
    case neg =>
      have TC := again_time hN o.pa o.now hpa hnow
      obtain ⟨y, hy⟩ : ∃ y, y = zC := ⟨_, rfl⟩
      rw [← hy] at TC
      unfold ov at TC
      have HY := hidden hy
      have TC := hidden TC
      have H_hpa := hidden hpa
      have H_hnow := hidden hnow
      clear hpa hnow
      clear hy hN hF
      go_wp2_with fail
      clear l0 l1 l2
      refine Calls.mono TC.out ?_
      rintro e X2 ⟨rfl, hB⟩
      have HA2 := hidden (HA1.out.later hB)
      obtain ⟨a1, n1, c1, hac⟩ : ∃ (a1 : Option Addr) (n1 c1 : Nat), (Value.slice none 0 0) = .slice a1 n1 c1 ∧ a1 = none ∧ n1 = 0 := ⟨none, 0, 0, rfl, rfl, rfl⟩
      rw [hac.1]
      have HAC := hidden hac.2
      have HM2 : Hid (Row X2 a1 n1 y.p.d) := by rw [HAC.out.1, HAC.out.2, HY.out]; exact Row.nil _ _
      clear hB TC hac
      obtain ⟨b12, hb12⟩ : ∃ b12, b12 = X2.heap.size := ⟨_, rfl⟩
      go_upto_region 8 with fail
      obtain ⟨W3, hW3⟩ : ∃ W3, W3 = X2.alloc (.cells (oc y (.slice a1 n1 c1)) 59) := ⟨_, rfl⟩
      have hB3 : Below X2.heap.size X2 W3 := by rw [hW3]; exact (Below.refl _ _).alloc (Nat.le_refl _) _
      have H12 : Hid (Has W3 b12 (oc y (.slice a1 n1 c1)) 59) := by rw [hb12, hW3]; exact Has.new _ _ _
      have HA3 := hidden (HA2.out.later hB3)
      have HM3 := hidden (HM2.out.later hB3)
      have HNB : Hid (∀ v P2, Ro (fun k => w0.heap.size ≤ k) X2 r v P2 S.n S.c S.L → ∀ k, FD r v k → k < b12) := fun v P2 hR k hk => by rw [hb12]; exact hR.lt hk
      unfold oc at hW3
      rw [← hW3, ← hb12]
      obtain ⟨v, P2, hR2, hFD⟩ := HA2.out.b2.ro
      have hR := hR2.later hB3
      have HNC : Hid (∀ k, FD r v k → k < b12) := HNB.out v P2 hR2
      clear hB3 hW3 hb12 HNB hR2
      have TD := r_again_time hR o.pa o.now H_hpa.out H_hnow.out
      rw [← HY.out] at TD
      unfold ov at TD
      have TD := hidden TD
      have HRR := hidden (And.intro hR hFD)
      have l1 := HA3.out.ob.cell 1 (v := .int .i64 o.pa) rfl
      have l2 := HA3.out.ob.cell 2 (v := .int .i64 o.now) rfl
      clear hR hFD
      go_wp2_with fail
      clear l1 l2
      refine Calls.mono TD.out ?_
      rintro e X4 ⟨rfl, hB⟩
      have HA4 := hidden (HA3.out.later hB)
      obtain ⟨a2, n2, c2, hac⟩ : ∃ (a2 : Option Addr) (n2 c2 : Nat), (Value.slice none 0 0) = .slice a2 n2 c2 ∧ a2 = none ∧ n2 = 0 := ⟨none, 0, 0, rfl, rfl, rfl⟩
      rw [hac.1]
      have HAC2 := hidden hac.2
      have HR1 := hidden (HM3.out.later hB)
      have HR2 : Hid (Row X4 a2 n2 y.p.d) := by rw [HAC2.out.1, HAC2.out.2, HY.out]; exact Row.nil _ _
      have H12b := hidden (H12.out.later hB)
      clear hB TD hac HA2 HA3 H12 HM3
      obtain ⟨b15, hb15⟩ : ∃ b15, b15 = X4.heap.size := ⟨_, rfl⟩
      go_upto_region 9 with fail
      obtain ⟨W5, hW5⟩ : ∃ W5, W5 = X4.alloc (.cells (oc y (.slice a2 n2 c2)) 59) := ⟨_, rfl⟩
      have hB5 : Below X4.heap.size X4 W5 := by rw [hW5]; exact (Below.refl _ _).alloc (Nat.le_refl _) _
      have h15 : Has W5 b15 (oc y (.slice a2 n2 c2)) 59 := by rw [hb15, hW5]; exact Has.new _ _ _
      have HA5 := hidden (HA4.out.later hB5)
      have SM := r_same (c := c1) (c' := c2) y (HR1.out.later hB5) (HR2.out.later hB5)
      unfold ov at SM
      have SM := hidden SM
      have h12 := H12b.out.later hB5
      have p0 := h12.cell 0 (v := .int .u32 y.ts) rfl
      have p1 := h12.cell 1 (v := .int .i64 y.pa) rfl
      have p2 := h12.cell 2 (v := .int .i64 y.ti) rfl
      have p3 := h12.cell 3 (v := .int .i64 y.se) rfl
      have p4 := h12.cell 4 (v := .int .i64 y.mi) rfl
      have p5 := h12.cell 5 (v := .bool y.qu) rfl
      have p6 := h12.cell 6 (v := .int .i64 y.st) rfl
      have p7 := h12.cell 7 (v := .int .u16 y.p.sm) rfl
      have p8 := h12.cell 8 (v := .int .u16 y.p.sn) rfl
      have p9 := h12.cell 9 (v := .int .u32 y.p.pr) rfl
      have p10 := h12.cell 10 (v := .bool y.p.un) rfl
      have p11 := h12.cell 11 (v := .slice a1 n1 c1) rfl
      have p12 := h12.cell 12 (v := .bool y.p.bg) rfl
      have p13 := h12.cell 13 (v := .bool y.p.en) rfl
      have s0 := h15.cell 0 (v := .int .u32 y.ts) rfl
      have s1 := h15.cell 1 (v := .int .i64 y.pa) rfl
      have s2 := h15.cell 2 (v := .int .i64 y.ti) rfl
      have s3 := h15.cell 3 (v := .int .i64 y.se) rfl
      have s4 := h15.cell 4 (v := .int .i64 y.mi) rfl
      have s5 := h15.cell 5 (v := .bool y.qu) rfl
      have s6 := h15.cell 6 (v := .int .i64 y.st) rfl
      have s7 := h15.cell 7 (v := .int .u16 y.p.sm) rfl
      have s8 := h15.cell 8 (v := .int .u16 y.p.sn) rfl
      have s9 := h15.cell 9 (v := .int .u32 y.p.pr) rfl
      have s10 := h15.cell 10 (v := .bool y.p.un) rfl
      have s11 := h15.cell 11 (v := .slice a2 n2 c2) rfl
      have s12 := h15.cell 12 (v := .bool y.p.bg) rfl
      have s13 := h15.cell 13 (v := .bool y.p.en) rfl
      unfold oc at hW5
      rw [← hW5, ← hb15]
      clear hB5 hW5 hb15 h15 h12
      go_wp2_with fail
      clear p0 s0 p1 s1 p2 s2 p3 s3 p4 s4 p5 s5 p6 s6 p7 s7 p8 s8 p9 s9 p10 s10 p11 s11 p12 s12 p13 s13
      refine Calls.mono SM.out ?_
      rintro e X6 ⟨rfl, hB6⟩
      have HA6 := hidden (HA5.out.later hB6)
      clear hB6
      have z0 := HA6.out.rb.cell 0 rfl
      have z1 := HA6.out.rb.cell 1 rfl
      have z2 := HA6.out.rb.cell 2 rfl
      have zf := HA6.out.rb.frozen
      go_wp2
      obtain ⟨y1, y2⟩ := set3 (v0 := .slice none 0 0) (v1 := .int .i64 0) (v2 := .int .i64 0) HA6.out.rb
      refine bodyPost_ret (res_ct rfl rfl y1) rfl ⟨S, 0, none, 0, 0, 0, rfl, (Stp.same HGG.out o), (HGG.out.mono (Nat.le_succ K) HKK.out), HA6.out.fin y2⟩
    case pos =>
      by_cases hex : ∃ x ∈ S.L, x.st = 2
      case neg =>
        have TC := again hN HGG.out.lk (fun x hx => ⟨(HGG.out.ch x hx).d1, by have := (HGG.out.ch x hx).ti0; omega, by have := (HGG.out.ch x hx).tiK; have := HKK.out; omega⟩) o.pa o.now hpa hnow
        replace TC := TC.mono (R' := fun e w' => e = .returned (.tuple #[ov zC (.slice none 0 0), .bool false, .int .i64 0]) ∧ Below W1.heap.size W1 w') (by
          rintro e w' (⟨i, x, _, _, hf, _⟩ | ⟨h1, _, h3⟩)
          · exact absurd ⟨x, List.mem_of_getElem? hf.1, hf.2.1⟩ hex
          · exact ⟨h1, h3⟩)
        obtain ⟨y, hy⟩ : ∃ y, y = zC := ⟨_, rfl⟩
        rw [← hy] at TC
        unfold ov at TC
        have HY := hidden hy
        have TC := hidden TC
        have H_hpa := hidden hpa
        have H_hnow := hidden hnow
        have H_hex := hidden hex
        clear hpa hnow hex
        clear hy hN hF
        go_wp2_with fail
        clear l0 l1 l2
        refine Calls.mono TC.out ?_
        rintro e X2 ⟨rfl, hB⟩
        have HA2 := hidden (HA1.out.later hB)
        obtain ⟨a1, n1, c1, hac⟩ : ∃ (a1 : Option Addr) (n1 c1 : Nat), (Value.slice none 0 0) = .slice a1 n1 c1 ∧ a1 = none ∧ n1 = 0 := ⟨none, 0, 0, rfl, rfl, rfl⟩
        rw [hac.1]
        have HAC := hidden hac.2
        have HM2 : Hid (Row X2 a1 n1 y.p.d) := by rw [HAC.out.1, HAC.out.2, HY.out]; exact Row.nil _ _
        clear hB TC hac
        obtain ⟨b12, hb12⟩ : ∃ b12, b12 = X2.heap.size := ⟨_, rfl⟩
        go_upto_region 8 with fail
        obtain ⟨W3, hW3⟩ : ∃ W3, W3 = X2.alloc (.cells (oc y (.slice a1 n1 c1)) 59) := ⟨_, rfl⟩
        have hB3 : Below X2.heap.size X2 W3 := by rw [hW3]; exact (Below.refl _ _).alloc (Nat.le_refl _) _
        have H12 : Hid (Has W3 b12 (oc y (.slice a1 n1 c1)) 59) := by rw [hb12, hW3]; exact Has.new _ _ _
        have HA3 := hidden (HA2.out.later hB3)
        have HM3 := hidden (HM2.out.later hB3)
        have HNB : Hid (∀ v P2, Ro (fun k => w0.heap.size ≤ k) X2 r v P2 S.n S.c S.L → ∀ k, FD r v k → k < b12) := fun v P2 hR k hk => by rw [hb12]; exact hR.lt hk
        unfold oc at hW3
        rw [← hW3, ← hb12]
        obtain ⟨v, P2, hR2, hFD⟩ := HA2.out.b2.ro
        have hR := hR2.later hB3
        have HNC : Hid (∀ k, FD r v k → k < b12) := HNB.out v P2 hR2
        clear hB3 hW3 hb12 HNB hR2
        have TD := r_again hR HGG.out.lk (fun x hx => ⟨by have := (HGG.out.ch x hx).ti0; omega, by have := (HGG.out.ch x hx).tiK; have := HKK.out; omega⟩) o.pa o.now H_hpa.out H_hnow.out
        replace TD := TD.mono (R' := fun e w' => e = .returned (.tuple #[ov zC (.slice none 0 0), .bool false, .int .i64 0]) ∧ Below W3.heap.size W3 w') (by
          rintro e w' (⟨i, x, _, _, hf, _⟩ | ⟨h1, _, h3⟩)
          · exact absurd ⟨x, List.mem_of_getElem? hf.1, hf.2.1⟩ H_hex.out
          · exact ⟨h1, h3⟩)
        rw [← HY.out] at TD
        unfold ov at TD
        have TD := hidden TD
        have HRR := hidden (And.intro hR hFD)
        have l1 := HA3.out.ob.cell 1 (v := .int .i64 o.pa) rfl
        have l2 := HA3.out.ob.cell 2 (v := .int .i64 o.now) rfl
        clear hR hFD
        go_wp2_with fail
        clear l1 l2
        refine Calls.mono TD.out ?_
        rintro e X4 ⟨rfl, hB⟩
        have HA4 := hidden (HA3.out.later hB)
        obtain ⟨a2, n2, c2, hac⟩ : ∃ (a2 : Option Addr) (n2 c2 : Nat), (Value.slice none 0 0) = .slice a2 n2 c2 ∧ a2 = none ∧ n2 = 0 := ⟨none, 0, 0, rfl, rfl, rfl⟩
        rw [hac.1]
        have HAC2 := hidden hac.2
        have HR1 := hidden (HM3.out.later hB)
        have HR2 : Hid (Row X4 a2 n2 y.p.d) := by rw [HAC2.out.1, HAC2.out.2, HY.out]; exact Row.nil _ _
        have H12b := hidden (H12.out.later hB)
        clear hB TD hac HA2 HA3 H12 HM3
        obtain ⟨b15, hb15⟩ : ∃ b15, b15 = X4.heap.size := ⟨_, rfl⟩
        go_upto_region 9 with fail
        obtain ⟨W5, hW5⟩ : ∃ W5, W5 = X4.alloc (.cells (oc y (.slice a2 n2 c2)) 59) := ⟨_, rfl⟩
        have hB5 : Below X4.heap.size X4 W5 := by rw [hW5]; exact (Below.refl _ _).alloc (Nat.le_refl _) _
        have h15 : Has W5 b15 (oc y (.slice a2 n2 c2)) 59 := by rw [hb15, hW5]; exact Has.new _ _ _
        have HA5 := hidden (HA4.out.later hB5)
        have SM := r_same (c := c1) (c' := c2) y (HR1.out.later hB5) (HR2.out.later hB5)
        unfold ov at SM
        have SM := hidden SM
        have h12 := H12b.out.later hB5
        have p0 := h12.cell 0 (v := .int .u32 y.ts) rfl
        have p1 := h12.cell 1 (v := .int .i64 y.pa) rfl
        have p2 := h12.cell 2 (v := .int .i64 y.ti) rfl
        have p3 := h12.cell 3 (v := .int .i64 y.se) rfl
        have p4 := h12.cell 4 (v := .int .i64 y.mi) rfl
        have p5 := h12.cell 5 (v := .bool y.qu) rfl
        have p6 := h12.cell 6 (v := .int .i64 y.st) rfl
        have p7 := h12.cell 7 (v := .int .u16 y.p.sm) rfl
        have p8 := h12.cell 8 (v := .int .u16 y.p.sn) rfl
        have p9 := h12.cell 9 (v := .int .u32 y.p.pr) rfl
        have p10 := h12.cell 10 (v := .bool y.p.un) rfl
        have p11 := h12.cell 11 (v := .slice a1 n1 c1) rfl
        have p12 := h12.cell 12 (v := .bool y.p.bg) rfl
        have p13 := h12.cell 13 (v := .bool y.p.en) rfl
        have s0 := h15.cell 0 (v := .int .u32 y.ts) rfl
        have s1 := h15.cell 1 (v := .int .i64 y.pa) rfl
        have s2 := h15.cell 2 (v := .int .i64 y.ti) rfl
        have s3 := h15.cell 3 (v := .int .i64 y.se) rfl
        have s4 := h15.cell 4 (v := .int .i64 y.mi) rfl
        have s5 := h15.cell 5 (v := .bool y.qu) rfl
        have s6 := h15.cell 6 (v := .int .i64 y.st) rfl
        have s7 := h15.cell 7 (v := .int .u16 y.p.sm) rfl
        have s8 := h15.cell 8 (v := .int .u16 y.p.sn) rfl
        have s9 := h15.cell 9 (v := .int .u32 y.p.pr) rfl
        have s10 := h15.cell 10 (v := .bool y.p.un) rfl
        have s11 := h15.cell 11 (v := .slice a2 n2 c2) rfl
        have s12 := h15.cell 12 (v := .bool y.p.bg) rfl
        have s13 := h15.cell 13 (v := .bool y.p.en) rfl
        unfold oc at hW5
        rw [← hW5, ← hb15]
        clear hB5 hW5 hb15 h15 h12
        go_wp2_with fail
        clear p0 s0 p1 s1 p2 s2 p3 s3 p4 s4 p5 s5 p6 s6 p7 s7 p8 s8 p9 s9 p10 s10 p11 s11 p12 s12 p13 s13
        refine Calls.mono SM.out ?_
        rintro e X6 ⟨rfl, hB6⟩
        have HA6 := hidden (HA5.out.later hB6)
        clear hB6
        have z0 := HA6.out.rb.cell 0 rfl
        have z1 := HA6.out.rb.cell 1 rfl
        have z2 := HA6.out.rb.cell 2 rfl
        have zf := HA6.out.rb.frozen
        go_wp2
        obtain ⟨y1, y2⟩ := set3 (v0 := .slice none 0 0) (v1 := .int .i64 0) (v2 := .int .i64 0) HA6.out.rb
        refine bodyPost_ret (res_ct rfl rfl y1) rfl ⟨S, 0, none, 0, 0, 0, rfl, (Stp.same HGG.out o), (HGG.out.mono (Nat.le_succ K) HKK.out), HA6.out.fin y2⟩
      case pos =>
        have TC := again hN HGG.out.lk (fun x hx => ⟨(HGG.out.ch x hx).d1, by have := (HGG.out.ch x hx).ti0; omega, by have := (HGG.out.ch x hx).tiK; have := HKK.out; omega⟩) o.pa o.now hpa hnow
        obtain ⟨x, i, hfst⟩ : ∃ x i, Fst (fun x : Ch => x.st = 2) S.L i x := fst_of hex
        obtain ⟨y, hy⟩ : ∃ y, y = agC x o.pa o.now := ⟨_, rfl⟩
        replace TC := TC.mono (R' := fun e w' => ∃ v P', e = .returned (.tuple #[ov y v, .bool true, .int .i64 0]) ∧ Mine W1.heap.size w' v x.p.d ∧ No (fun k => w0.heap.size ≤ k) w' t f rv P' (nextS S) S.n (S.L.set i y) (fun k => fl (S.L.set i y) k) (Ob.mk (S.L.set i y)) ∧ Mod (FC t f rv) W1 w') (by
          rintro e w' (⟨i', x', v, P', hf, h1, h2, h3, h4⟩ | ⟨_, h2, _⟩)
          · obtain ⟨rfl, rfl⟩ := fst_unique hf hfst
            exact ⟨v, P', by rw [hy]; exact h1, h2, by rw [hy]; exact h3, h4⟩
          · exact absurd hfst.2.1 (h2 x (List.mem_of_getElem? hfst.1)))
        unfold ov at TC
        have HFS := hidden hfst
        have HY : Hid (y = agC x o.pa o.now ∧ y.p.d = x.p.d) := ⟨hy, by rw [hy]; rfl⟩
        have TC := hidden TC
        have HNF := hidden (And.intro hN hF)
        have H_hpa := hidden hpa
        have H_hnow := hidden hnow
        clear hpa hnow
        clear hy hN hF hex hfst
        go_wp2_with fail
        clear l0 l1 l2
        refine Calls.mono TC.out ?_
        rintro e X2 ⟨v1, P3, rfl, hmine, hNo, hm⟩
        obtain ⟨a1, c1, hv1, hrow, _⟩ := hmine.row
        obtain ⟨n1, hn1⟩ : ∃ n1, n1 = x.p.d.length := ⟨_, rfl⟩
        rw [← hn1] at hv1 hrow
        subst hv1
        have HA2 := hidden (HA1.out.code (S1 := agS S i y) HNF.out.1 HNF.out.2 hm ⟨P3, by rw [next_ag]; exact hNo⟩ (fun k hk => .inl hk))
        have HM2 := hidden hmine
        clear hrow hmine hNo hm TC HNF hn1
        obtain ⟨b12, hb12⟩ : ∃ b12, b12 = X2.heap.size := ⟨_, rfl⟩
        go_upto_region 8 with fail
        obtain ⟨W3, hW3⟩ : ∃ W3, W3 = X2.alloc (.cells (oc y (.slice a1 n1 c1)) 59) := ⟨_, rfl⟩
        have hB3 : Below X2.heap.size X2 W3 := by rw [hW3]; exact (Below.refl _ _).alloc (Nat.le_refl _) _
        have H12 : Hid (Has W3 b12 (oc y (.slice a1 n1 c1)) 59) := by rw [hb12, hW3]; exact Has.new _ _ _
        have HA3 := hidden (HA2.out.later hB3)
        have HM3 := hidden (HM2.out.later hB3)
        have HNB : Hid (∀ v P2, Ro (fun k => w0.heap.size ≤ k) X2 r v P2 S.n S.c S.L → ∀ k, FD r v k → k < b12) := fun v P2 hR k hk => by rw [hb12]; exact hR.lt hk
        unfold oc at hW3
        rw [← hW3, ← hb12]
        obtain ⟨v, P2, hR2, hFD⟩ := HA2.out.b2.ro
        have hR := hR2.later hB3
        have HNC : Hid (∀ k, FD r v k → k < b12) := HNB.out v P2 hR2
        clear hB3 hW3 hb12 HNB hR2
        have TD := r_again hR HGG.out.lk (fun x hx => ⟨by have := (HGG.out.ch x hx).ti0; omega, by have := (HGG.out.ch x hx).tiK; have := HKK.out; omega⟩) o.pa o.now H_hpa.out H_hnow.out
        replace TD := TD.mono (R' := fun e w' => ∃ v2 P', e = .returned (.tuple #[ov y v2, .bool true, .int .i64 0]) ∧ By (fun k => w0.heap.size ≤ k) w' v2 x.p.d ∧ Ro (fun k => w0.heap.size ≤ k) w' r v P' S.n S.c (S.L.set i y) ∧ Mod (FD r v) W3 w') (by
          rintro e w' (⟨i', x', v, P', hf, h1, h2, h3, h4⟩ | ⟨_, h2, _⟩)
          · obtain ⟨rfl, rfl⟩ := fst_unique hf HFS.out
            exact ⟨v, P', by rw [HY.out.1]; exact h1, h2, by rw [HY.out.1]; exact h3, h4⟩
          · exact absurd HFS.out.2.1 (h2 x (List.mem_of_getElem? HFS.out.1)))
        unfold ov at TD
        have TD := hidden TD
        have HRR := hidden (And.intro hR hFD)
        have l1 := HA3.out.ob.cell 1 (v := .int .i64 o.pa) rfl
        have l2 := HA3.out.ob.cell 2 (v := .int .i64 o.now) rfl
        clear hR hFD
        go_wp2_with fail
        clear l1 l2
        refine Calls.mono TD.out ?_
        rintro e X4 ⟨v2, P4, rfl, hby, hRo, hm⟩
        have HR1 : Hid (Row X4 a1 n1 y.p.d) := by
          have hq : Mine W1.heap.size X4 (.slice a1 n1 c1) x.p.d := HM3.out.stay hm (fun k hk => by obtain ⟨cur, h5, _⟩ := HM3.out.obj hk; exact HRR.out.1.bytes h5)
          obtain ⟨a1', c1', hv1, hrow, _⟩ := hq.row
          cases hv1
          rw [HY.out.2]
          exact hrow
        have H12b : Hid (Has X4 b12 (oc y (.slice a1 n1 c1)) 59) := hm.has H12.out (fun hk => by have := HNC.out _ hk; omega)
        have HA4 := hidden (HA3.out.docc (S1 := agS S i y) HRR.out.1 HRR.out.2 hm ⟨P4, hRo⟩ (fun k hk => .inl hk))
        obtain ⟨g2, o2, c2, hv2, _, _, _, _, hrow2⟩ := hby.row
        obtain ⟨n2, hn2⟩ : ∃ n2, n2 = x.p.d.length := ⟨_, rfl⟩
        obtain ⟨a2, ha2⟩ : ∃ a2, a2 = some (⟨g2, o2, none⟩ : Addr) := ⟨_, rfl⟩
        rw [← hn2, ← ha2] at hv2 hrow2
        subst hv2
        have HR2 : Hid (Row X4 a2 n2 y.p.d) := by rw [HY.out.2]; exact hrow2
        clear hn2 ha2 hrow2 hby hRo hm TD HA2 HA3 H12 HM3
        obtain ⟨b15, hb15⟩ : ∃ b15, b15 = X4.heap.size := ⟨_, rfl⟩
        go_upto_region 9 with fail
        obtain ⟨W5, hW5⟩ : ∃ W5, W5 = X4.alloc (.cells (oc y (.slice a2 n2 c2)) 59) := ⟨_, rfl⟩
        have hB5 : Below X4.heap.size X4 W5 := by rw [hW5]; exact (Below.refl _ _).alloc (Nat.le_refl _) _
        have h15 : Has W5 b15 (oc y (.slice a2 n2 c2)) 59 := by rw [hb15, hW5]; exact Has.new _ _ _
        have HA5 := hidden (HA4.out.later hB5)
        have SM := r_same (c := c1) (c' := c2) y (HR1.out.later hB5) (HR2.out.later hB5)
        unfold ov at SM
        have SM := hidden SM
        have h12 := H12b.out.later hB5
        have p0 := h12.cell 0 (v := .int .u32 y.ts) rfl
        have p1 := h12.cell 1 (v := .int .i64 y.pa) rfl
        have p2 := h12.cell 2 (v := .int .i64 y.ti) rfl
        have p3 := h12.cell 3 (v := .int .i64 y.se) rfl
        have p4 := h12.cell 4 (v := .int .i64 y.mi) rfl
        have p5 := h12.cell 5 (v := .bool y.qu) rfl
        have p6 := h12.cell 6 (v := .int .i64 y.st) rfl
        have p7 := h12.cell 7 (v := .int .u16 y.p.sm) rfl
        have p8 := h12.cell 8 (v := .int .u16 y.p.sn) rfl
        have p9 := h12.cell 9 (v := .int .u32 y.p.pr) rfl
        have p10 := h12.cell 10 (v := .bool y.p.un) rfl
        have p11 := h12.cell 11 (v := .slice a1 n1 c1) rfl
        have p12 := h12.cell 12 (v := .bool y.p.bg) rfl
        have p13 := h12.cell 13 (v := .bool y.p.en) rfl
        have s0 := h15.cell 0 (v := .int .u32 y.ts) rfl
        have s1 := h15.cell 1 (v := .int .i64 y.pa) rfl
        have s2 := h15.cell 2 (v := .int .i64 y.ti) rfl
        have s3 := h15.cell 3 (v := .int .i64 y.se) rfl
        have s4 := h15.cell 4 (v := .int .i64 y.mi) rfl
        have s5 := h15.cell 5 (v := .bool y.qu) rfl
        have s6 := h15.cell 6 (v := .int .i64 y.st) rfl
        have s7 := h15.cell 7 (v := .int .u16 y.p.sm) rfl
        have s8 := h15.cell 8 (v := .int .u16 y.p.sn) rfl
        have s9 := h15.cell 9 (v := .int .u32 y.p.pr) rfl
        have s10 := h15.cell 10 (v := .bool y.p.un) rfl
        have s11 := h15.cell 11 (v := .slice a2 n2 c2) rfl
        have s12 := h15.cell 12 (v := .bool y.p.bg) rfl
        have s13 := h15.cell 13 (v := .bool y.p.en) rfl
        unfold oc at hW5
        rw [← hW5, ← hb15]
        clear hB5 hW5 hb15 h15 h12
        go_wp2_with fail
        clear p0 s0 p1 s1 p2 s2 p3 s3 p4 s4 p5 s5 p6 s6 p7 s7 p8 s8 p9 s9 p10 s10 p11 s11 p12 s12 p13 s13
        refine Calls.mono SM.out ?_
        rintro e X6 ⟨rfl, hB6⟩
        have HA6 := hidden (HA5.out.later hB6)
        clear hB6
        have z0 := HA6.out.rb.cell 0 rfl
        have z1 := HA6.out.rb.cell 1 rfl
        have z2 := HA6.out.rb.cell 2 rfl
        have zf := HA6.out.rb.frozen
        go_wp2
        obtain ⟨y1, y2⟩ := set3 (v0 := .slice none 0 0) (v1 := .int .i64 0) (v2 := .int .i64 0) HA6.out.rb
        refine bodyPost_ret (res_ct rfl rfl y1) rfl ⟨agS S i y, 0, none, 0, 0, 0, rfl, (by rw [HY.out.1]; exact ag_stp HGG.out o (by rw [HHK.out]; decide) HFS.out.1 HFS.out.2.1 o.pa o.now), (by rw [HY.out.1]; exact HGG.out.ag HKK.out HFS.out.1 o.pa o.now H_hpa.out H_hnow.out), HA6.out.fin y2⟩
end
end Go.Proofs.Ytjceeckcfjjkkaa.Ob
