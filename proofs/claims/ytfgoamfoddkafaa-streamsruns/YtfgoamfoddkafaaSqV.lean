/-
  The document's queue while a piece is taken.
  Conditions: as at each lemma.
-/
import Derived.Test.YtfgoamfoddkafaaSqU
import Derived.Test.YtfgoamfoddkafaaSqO
namespace Go.Proofs.Ytfgoamfoddkafaa.Sq
open Go.ChangeShapes Go.WideShapes Go.ChangeAt Go.RowKit
open Ba (hidden Has Only cell_lt heap_lt)
set_option linter.unusedVariables false
/-- the queue's cells alone -/
structure Rr (base : Nat) (w : World) (r bs : Nat) (vL : Value) (S : St) (Q : List Ent) (rl : Int) : Prop where
  q : Has w r #[.int .i64 (S.n : Int), .int .i64 S.lim, vL, .slice (some ⟨bs, 0, none⟩) S.n S.n, .int .i64 rl, .int .i64 S.tk] 65
  hs : ∃ cs, Has w bs cs 32 ∧ ∀ i, i < S.n → cs[i]? = some (.int .u16 (S.sn i))
  om : w.ownsRow base 78 6 vL Q.length (ecs Q)
  by_ : ∀ e ∈ Q, By (fun _ => True) w e.v e.d
  rb : base ≤ r
  sb : base ≤ bs
theorem own_any {F : Nat → Prop} {w w' : World} {base E s n : Nat} {v : Value} {xs : List Value} (h : w.ownsRow base E s v n xs) (hm : Mod F w w') (hF : ∀ k cs, Has w k cs E → ¬ F k) : w'.ownsRow base E s v n xs := by
  refine ⟨h.1, ?_⟩
  rcases h.2 with h0 | ⟨g, cap, cur, rfl, hb, hg, rr⟩
  · exact .inl h0
  · exact .inr ⟨g, cap, cur, rfl, hb, hm.has (b := g) hg (hF g cur hg), rr⟩
section
variable {base : Nat} {w x x' : World} {r bs pb : Nat} {vL vL' : Value} {S S' : St} {Q Q' : List Ent} {rl rl' : Int} {pc : Array Value}
theorem Ro.raw (h : Ro base w r bs vL S Q rl) : Rr base w r bs vL S Q rl := ⟨h.q, h.hs, h.om, h.by_, h.rb, h.sb⟩
theorem Rr.ro (h : Rr base w r bs vL S Q rl) (hr : Rel S Q rl) (hg : Good S) : Ro base w r bs vL S Q rl := ⟨h.q, h.hs, h.om, h.by_, h.rb, h.sb, hr, hg⟩
theorem Rr.stay {F : Nat → Prop} (h : Rr base x r bs vL S Q rl) (hm : Mod F x x') (hF : ∀ k cs ty, Has x k cs ty → (ty = 65 ∨ ty = 78 ∨ ty = 32 ∨ ty = 5) → ¬ F k) : Rr base x' r bs vL S Q rl := by
  obtain ⟨cs, hc, hl⟩ := h.hs
  exact ⟨hm.has h.q (hF _ _ _ h.q (.inl rfl)), ⟨cs, hm.has hc (hF _ _ _ hc (.inr (.inr (.inl rfl)))), hl⟩, own_any h.om hm (fun k cs hh => hF k cs _ hh (.inr (.inl rfl))), fun e he => (h.by_ e he).stay hm (fun k cur _ hh => hF k cur 5 hh (.inr (.inr (.inr rfl)))), h.rb, h.sb⟩
theorem Rr.later (h : Rr base x r bs vL S Q rl) (hB : Below x.heap.size x x') : Rr base x' r bs vL S Q rl :=
  h.stay (F := fun k => x.heap.size ≤ k) (Mod.of_below hB) (fun k cs ty hh _ hf => by have := hh.lt; omega)
theorem Rr.setQ (h : Rr base x r bs vL S Q rl) {j : Nat} {u : Value} (hq : (#[.int .i64 (S.n : Int), .int .i64 S.lim, vL, .slice (some ⟨bs, 0, none⟩) S.n S.n, .int .i64 rl, .int .i64 S.tk] : Array Value).setIfInBounds j u = #[.int .i64 (S'.n : Int), .int .i64 S'.lim, vL', .slice (some ⟨bs, 0, none⟩) S'.n S'.n, .int .i64 rl', .int .i64 S'.tk])
    (hn : S'.n = S.n) (hsn : S'.sn = S.sn) (hom : x.ownsRow base 78 6 vL' Q'.length (ecs Q')) (hby : ∀ e ∈ Q', By (fun _ => True) x e.v e.d) : Rr base (x.setCell ⟨r, j, none⟩ u) r bs vL' S' Q' rl' := by
  have hm : Mod (fun k => k = r) x (x.setCell ⟨r, j, none⟩ u) := Mod.setCell (F := fun k => k = r) x (p := ⟨r, j, none⟩) rfl u
  have hne : ∀ {k : Nat} {cs : Array Value} {ty : TypeId}, Has x k cs ty → ty ≠ 65 → ¬ k = r := fun hh ht e => by subst e; exact ht (has_type hh h.q)
  obtain ⟨cs, hc, hl⟩ := h.hs
  refine ⟨?_, ⟨cs, hm.has hc (hne hc (by decide)), fun i hi => by rw [hsn]; exact hl i (hn ▸ hi)⟩, own_any hom hm (fun k cs hh => hne hh (by decide)), fun e he => (hby e he).stay hm (fun k cur _ hh => hne hh (by decide)), h.rb, h.sb⟩
  have := h.q.set j u
  rw [hq] at this
  exact this
theorem Rr.setSn (h : Rr base x r bs vL S Q rl) {i : Nat} (hi : i < S.n) (s' : Int) (hS : S' = ⟨S.n, S.lim, S.last, S.bgn, S.R, up S.sn i s', S.wt, S.tk⟩) : Rr base (x.setCell ⟨bs, i, none⟩ (.int .u16 s')) r bs vL S' Q rl := by
  subst hS
  have hm : Mod (fun k => k = bs) x (x.setCell ⟨bs, i, none⟩ (.int .u16 s')) := Mod.setCell (F := fun k => k = bs) x (p := ⟨bs, i, none⟩) rfl _
  obtain ⟨cs, hc, hl⟩ := h.hs
  have hne : ∀ {k : Nat} {cs : Array Value} {ty : TypeId}, Has x k cs ty → ty ≠ 32 → ¬ k = bs := fun hh ht e => by subst e; exact ht (has_type hh hc)
  refine ⟨hm.has h.q (hne h.q (by decide)), ⟨_, hc.set i _, fun j hj => ?_⟩, own_any h.om hm (fun k cs hh => hne hh (by decide)), fun e he => (h.by_ e he).stay hm (fun k cur _ hh => hne hh (by decide)), h.rb, h.sb⟩
  show _ = some (Value.int .u16 (up S.sn i s' j))
  have hsz : i < cs.size := by
    have := hl i hi
    rcases Nat.lt_or_ge i cs.size with h' | h'
    · exact h'
    · rw [Array.getElem?_eq_none h'] at this; cases this
  rw [Array.getElem?_setIfInBounds]
  by_cases e : j = i
  · subst e; rw [if_pos rfl, if_pos hsz, up_same]
  · rw [if_neg (fun h => e h.symm), up_ne _ _ e]; exact hl j hj
theorem Rr.setE {g L cap : Nat} {A B : List Ent} {e e' : Ent} (h : Rr base x r bs (.slice (some ⟨g, 0, none⟩) L cap) S (A ++ e :: B) rl) {c : Nat} {u : Value} (hc : c < 6) (hu : (ec e).set c u = ec e') (hv : e'.v = e.v) (hd : e'.d = e.d) : Rr base (x.setCell ⟨g, A.length * 6 + c, none⟩ u) r bs (.slice (some ⟨g, 0, none⟩) L cap) S (A ++ e' :: B) rl ∧ ∃ cur, Has x g cur 78 ∧ base ≤ g := by
  obtain ⟨cur, hg, hbg⟩ : ∃ cur, Has x g cur 78 ∧ base ≤ g := by
    rcases h.om.2 with ⟨e0, _⟩ | ⟨g', cap', cur, e0, hb, hg, _⟩
    · cases e0
    · cases e0; exact ⟨cur, hg, hb⟩
  have hL : L = (A ++ e :: B).length := by
    rcases h.om.2 with ⟨e0, _⟩ | ⟨g', cap', cur, e0, _⟩
    · cases e0
    · cases e0; rfl
  have hm : Mod (fun k => k = g) x (x.setCell ⟨g, A.length * 6 + c, none⟩ u) := Mod.setCell (F := fun k => k = g) x (p := ⟨g, A.length * 6 + c, none⟩) rfl _
  have hne : ∀ {k : Nat} {cs : Array Value} {ty : TypeId}, Has x k cs ty → ty ≠ 78 → ¬ k = g := fun hh ht e => by subst e; exact ht (has_type hh hg)
  obtain ⟨cs, hcs, hl⟩ := h.hs
  refine ⟨⟨hm.has h.q (hne h.q (by decide)), ⟨cs, hm.has hcs (hne hcs (by decide)), hl⟩, ?_, fun y hy => ?_, h.rb, h.sb⟩, cur, hg, hbg⟩
  · have hlen : (A ++ e' :: B).length = (A ++ e :: B).length := by simp
    have hom := h.om
    rw [hL] at hom
    have := (hom.stored (A.length * 6 + c) u).1
    have e1 : (ecs (A ++ e :: B)).set (A.length * 6 + c) u = ecs (A ++ e' :: B) := by
      unfold ecs
      rw [flat_set ec_len (A ++ e :: B) (j := A.length) (x := e) (y := e') (by rw [List.getElem?_append_right (Nat.le_refl _)]; simp) hc hu]
      congr 1
      rw [List.set_append_right _ _ (Nat.le_refl _)]
      simp
    rw [e1] at this
    rw [hL, hlen]
    exact this
  · have hold : By (fun _ => True) x y.v y.d := by
      rcases List.mem_append.1 hy with h' | h'
      · exact h.by_ y (by simp [h'])
      · rcases List.mem_cons.1 h' with rfl | h'
        · rw [hv, hd]; exact h.by_ e (by simp)
        · exact h.by_ y (by simp [h'])
    exact hold.stay hm (fun k cur _ hh => hne hh (by decide))
/-- between two steps of a take -/
structure Tt (base : Nat) (w x : World) (r bs : Nat) (vL : Value) (S : St) (Q : List Ent) (rl : Int) (pb : Nat) (pc : Array Value) : Prop where
  rr : Rr base x r bs vL S Q rl
  md : Mod (Gr base w) w x
  b0 : Has x w.heap.size zP 44
  b1 : Has x pb pc 44
  le : w.heap.size < pb
theorem Tt.turn {b : Nat} {cs : Array Value} {ty : TypeId} (h : Tt base w x r bs vL S Q rl pb pc) (hb : Has x b cs ty) (hbase : base ≤ b) (ht : ty = 65 ∨ ty = 78 ∨ ty = 32) (j : Nat) (u : Value) (hr : Rr base (x.setCell ⟨b, j, none⟩ u) r bs vL' S' Q' rl') : Tt base w (x.setCell ⟨b, j, none⟩ u) r bs vL' S' Q' rl' pb pc := by
  have hm : Mod (fun k => k = b) x (x.setCell ⟨b, j, none⟩ u) := Mod.setCell (F := fun k => k = b) x (p := ⟨b, j, none⟩) rfl u
  have hne : ∀ {k : Nat} {cs : Array Value}, Has x k cs 44 → ¬ k = b := fun hh e => by subst e; have := has_type hh hb; rcases ht with e | e | e <;> rw [← this] at e <;> exact absurd e (by decide)
  exact ⟨hr, gr_trans h.md (gr_set hb hbase ht j u), hm.has h.b0 (hne h.b0), hm.has h.b1 (hne h.b1), h.le⟩
theorem Tt.box (h : Tt base w x r bs vL S Q rl pb pc) (j : Nat) (u : Value) : Tt base w (x.setCell ⟨pb, j, none⟩ u) r bs vL S Q rl pb (pc.setIfInBounds j u) := by
  have hm : Mod (fun k => k = pb) x (x.setCell ⟨pb, j, none⟩ u) := Mod.setCell (F := fun k => k = pb) x (p := ⟨pb, j, none⟩) rfl u
  refine ⟨h.rr.stay hm (fun k cs ty hh ht e => ?_), h.md.trans hm (fun k hk => .inr (by have := h.le; omega)), hm.has h.b0 (fun e => by have := h.le; omega), h.b1.set j u, h.le⟩
  subst e
  have := has_type hh h.b1
  rcases ht with e | e | e | e <;> rw [this] at e <;> exact absurd e (by decide)
theorem Tt.later (h : Tt base w x r bs vL S Q rl pb pc) (hB : Below x.heap.size x x') : Tt base w x' r bs vL S Q rl pb pc :=
  ⟨h.rr.later hB, h.md.trans (G := fun _ => False) (Mod.of_below hB) (fun k hk => hk.elim), h.b0.later hB, h.b1.later hB, h.le⟩
theorem Tt.last (h : Tt base w x r bs vL S Q rl pb pc) (i : Nat) : Tt base w (x.setCell ⟨r, 4, none⟩ (.int .i64 (i : Int))) r bs vL S Q (i : Int) pb pc :=
  h.turn h.rr.q h.rr.rb (.inl rfl) _ _ (h.rr.setQ (S' := S) (vL' := vL) (rl' := (i : Int)) rfl rfl rfl h.rr.om h.rr.by_)
theorem Tt.out (h : Tt base w x r bs vL S Q rl pb pc) (tk : Int) (hS : S' = ⟨S.n, S.lim, S.last, S.bgn, S.R, S.sn, S.wt, tk⟩) : Tt base w (x.setCell ⟨r, 5, none⟩ (.int .i64 tk)) r bs vL S' Q rl pb pc := by
  subst hS
  exact h.turn h.rr.q h.rr.rb (.inl rfl) _ _ (h.rr.setQ (S' := ⟨S.n, S.lim, S.last, S.bgn, S.R, S.sn, S.wt, tk⟩) (vL' := vL) (rl' := rl) rfl rfl rfl h.rr.om h.rr.by_)
theorem Tt.row (h : Tt base w x r bs vL S Q rl pb pc) (hom : x.ownsRow base 78 6 vL' Q'.length (ecs Q')) (hby : ∀ e ∈ Q', By (fun _ => True) x e.v e.d) : Tt base w (x.setCell ⟨r, 2, none⟩ vL') r bs vL' S Q' rl pb pc :=
  h.turn h.rr.q h.rr.rb (.inl rfl) _ _ (h.rr.setQ (S' := S) (vL' := vL') (rl' := rl) rfl rfl rfl hom hby)
theorem Tt.sn (h : Tt base w x r bs vL S Q rl pb pc) {i : Nat} (hi : i < S.n) (s' : Int) (hS : S' = ⟨S.n, S.lim, S.last, S.bgn, S.R, up S.sn i s', S.wt, S.tk⟩) : Tt base w (x.setCell ⟨bs, i, none⟩ (.int .u16 s')) r bs vL S' Q rl pb pc := by
  obtain ⟨cs, hc, _⟩ := h.rr.hs
  exact h.turn hc h.rr.sb (.inr (.inr rfl)) _ _ (h.rr.setSn hi s' hS)
theorem Tt.ent {g L cap : Nat} {A B : List Ent} {e e' : Ent} (h : Tt base w x r bs (.slice (some ⟨g, 0, none⟩) L cap) S (A ++ e :: B) rl pb pc) {c : Nat} {u : Value} (hc : c < 6) (hu : (ec e).set c u = ec e') (hv : e'.v = e.v) (hd : e'.d = e.d) : Tt base w (x.setCell ⟨g, A.length * 6 + c, none⟩ u) r bs (.slice (some ⟨g, 0, none⟩) L cap) S (A ++ e' :: B) rl pb pc := by
  obtain ⟨h1, cur, h2, h3⟩ := h.rr.setE hc hu hv hd
  exact h.turn h2 h3 (.inr (.inl rfl)) _ _ h1
theorem Tt.at {g L cap : Nat} {A B : List Ent} {e : Ent} (h : Tt base w x r bs (.slice (some ⟨g, 0, none⟩) L cap) S (A ++ e :: B) rl pb pc) : ∃ cur, Has x g cur 78 ∧ ∀ c u, (ec e)[c]? = some u → cur[A.length * 6 + c]? = some u := by
  rcases h.rr.om.2 with ⟨e0, _⟩ | ⟨g', cap', cur, e0, hb, hg, h1, h2, h3, h4⟩
  · cases e0
  · cases e0
    refine ⟨cur, hg, fun c u hu => ?_⟩
    have hc := (List.getElem?_eq_some_iff.1 hu).1
    rw [ec_len] at hc
    have e1 : (ecs (A ++ e :: B))[A.length * 6 + c]? = some u := by unfold ecs; rw [flat_at ec_len _ (x := e) (by rw [List.getElem?_append_right (Nat.le_refl _)]; simp) hc]; exact hu
    rw [← h4, List.getElem?_take] at e1
    split at e1
    · simpa using e1
    · cases e1
/-- a message is left out of the row -/
theorem Tt.drop {g L cap : Nat} {A B : List Ent} {e : Ent} (h : Tt base w x r bs (.slice (some ⟨g, 0, none⟩) L cap) S (A ++ e :: B) rl pb pc) (hbase : base ≤ x.heap.size) (hl : (A ++ e :: B).length ≤ 1073741824) (c2 : Nat) (ad : Addr) (had : B ≠ [] → ad = ⟨g, (A.length + 1) * 6, none⟩) :
    ∃ v10 w10 v11 w11, (Builtin.append_ #[63, 63] 63 #[.slice (some ⟨x.heap.size, 0, none⟩) 0 0, .slice (some ⟨g, 0, none⟩) A.length cap]).run Try.prog (x.alloc (.cells #[] 78)) = .ok v10 w10 ∧
      (Builtin.append_ #[63, 63] 63 #[v10, .slice (some ad) B.length c2]).run Try.prog w10 = .ok v11 w11 ∧ w11.ownsRow base 78 6 v11 (A ++ B).length (ecs (A ++ B)) ∧ Below x.heap.size x w10 ∧ Below x.heap.size x w11 := by
  rw [List.length_append, List.length_cons] at hl
  have hB : Below x.heap.size x (x.alloc (.cells #[] 78)) := (Below.refl _ x).alloc (Nat.le_refl _) _
  have hE : (x.alloc (.cells #[] 78)).ownsRow x.heap.size 78 6 (.slice (some ⟨x.heap.size, 0, none⟩) 0 0) ([] : List Ent).length (ecs []) :=
    ⟨rfl, .inr ⟨x.heap.size, 0, #[], rfl, Nat.le_refl _, heap_alloc_new x _, Nat.le_refl _, by decide, rfl, rfl⟩⟩
  have hL : L = (A ++ e :: B).length := by
    rcases h.rr.om.2 with ⟨e0, _⟩ | ⟨g', cap', cur, e0, _⟩
    · cases e0
    · cases e0; rfl
  have hom := h.rr.om
  have hcells := hom.cells (g := g) rfl
  have hsplit : ecs (A ++ e :: B) = ecs A ++ (ec e ++ ecs B) := by unfold ecs; rw [List.flatMap_append, List.flatMap_cons]
  rw [hsplit] at hcells
  have hold : ∀ {y : World}, Below x.heap.size x y → ∀ j u, (ecs A ++ (ec e ++ ecs B))[j]? = some u → y.cell? ⟨g, j, none⟩ = some u := fun hx j u hj => by
    have := hcells j u hj
    rw [add_at, Nat.zero_add] at this
    exact (hx.cell (p := ⟨g, j, none⟩) (cell_lt this)).trans this
  have hone : ∀ y ∈ A ++ e :: B, y.v.oneCell' = true := fun y hy => by
    obtain ⟨g', off, c', hv, _⟩ := (h.rr.by_ y hy).slice
    rw [hv]; rfl
  obtain ⟨v10, w10, r1, m1, g1, p1⟩ := app_ent (ns := A) (ad := ⟨g, 0, none⟩) (c := cap) hE hB.size (by simp only [List.length_nil]; omega) (.inr (by simp [Value.ownBlock])) (fun y hy => hone y (by simp [hy])) (fun j u hj => by
    rw [add_at, Nat.zero_add]
    refine hold hB j u ?_
    rw [List.getElem?_append_left (List.getElem?_eq_some_iff.1 hj).1]
    exact hj) 63
  have hB10 : Below x.heap.size x w10 := hB.grown g1 hB.size (fun j hj => by cases hj; exact Nat.le_refl _)
  obtain ⟨v11, w11, r2, m2, g2, p2⟩ := app_ent (ns := B) (ad := ad) (c := c2) m1 hB10.size (by simp only [List.nil_append]; omega) (.inr (by rcases p1 with e | e <;> rw [e] <;> simp [Value.ownBlock])) (fun y hy => hone y (by simp [hy])) (fun j u hj => by
    rw [had (fun e => by rw [e] at hj; cases hj), add_at]
    refine hold hB10 _ u ?_
    rw [List.getElem?_append_right (by rw [ecs_len]; omega), ecs_len, List.getElem?_append_right (by rw [ec_len]; omega), ec_len, show (A.length + 1) * 6 + j - A.length * 6 - 6 = j by omega]
    exact hj) 63
  have hB11 : Below x.heap.size x w11 := hB10.grown g2 hB10.size (fun j hj => by obtain ⟨_, _, hb⟩ := own_objM m1 hj; exact hb)
  exact ⟨v10, w10, v11, w11, r1, r2, own_le (by simpa using m2) hbase, hB10, hB11⟩
end
end Go.Proofs.Ytfgoamfoddkafaa.Sq
