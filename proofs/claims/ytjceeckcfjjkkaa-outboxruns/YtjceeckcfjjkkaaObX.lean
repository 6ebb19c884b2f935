/-
  A report is taken.
  Conditions: as at each lemma.
-/
import Derived.Test.YtjceeckcfjjkkaaObW
namespace Go.Proofs.Ytjceeckcfjjkkaa.Rg
open Go.ChangeShapes Go.WideShapes Go.ChangeAt Go.RowKit
theorem StM.nil {X : Type} {A : Nat → X → World → Prop} {x : X} {L : Nat → Bool} {w : World} (h : A 0 x w) : StM [] A x L w := ⟨0, Nat.le_refl _, (fun j c hj => by cases hj), h⟩
theorem StM.only {X : Type} {A : X → World → Prop} {x : X} {L : Nat → Bool} {w : World} (h : StM [] (fun _ => A) x L w) : A x w := by
  obtain ⟨_, _, _, h⟩ := h
  exact h
end Go.Proofs.Ytjceeckcfjjkkaa.Rg
namespace Go.Proofs.Ytjceeckcfjjkkaa.Ob
open Go.ChangeShapes Go.WideShapes Go.ChangeAt Go.RowKit Go.Shelf
open Ba (hidden Has cell_lt heap_lt)
set_option linter.unusedVariables false
theorem Below.drewN {n : Nat} {w w' : World} (h : Below n w w') (m : Nat) : Below n w (w'.drewN m) := by
  have e : Below n w' (w'.drewN m) := ⟨rfl, rfl, rfl, Nat.le_refl _, fun _ _ => rfl⟩
  exact h.trans e
theorem load15 {w : World} {b : Nat} {c : Ck} (h : Has w b (kcs c) 48) : (Instr.loadAt 48 (.pointer (some ⟨b, 0, none⟩))).run Try.prog w = .ok (kv c) w := by
  have e0 := h.cell 0 rfl
  have e1 := h.cell 1 rfl
  have e2 := h.cell 2 rfl
  have e3 := h.cell 3 rfl
  have e4 := h.cell 4 rfl
  have e5 := h.cell 5 rfl
  have e6 := h.cell 6 rfl
  have e7 := h.cell 7 rfl
  have e8 := h.cell 8 rfl
  have e9 := h.cell 9 rfl
  have e10 := h.cell 10 rfl
  have e11 := h.cell 11 rfl
  have e12 := h.cell 12 rfl
  have e13 := h.cell 13 rfl
  have e14 := h.cell 14 rfl
  simp [go_sem, e0, e1, e2, e3, e4, e5, e6, e7, e8, e9, e10, e11, e12, e13, e14, kv, kcs]
theorem run_bs138 (a b : Option Addr) (l m k n : Nat) (w : World) : (Instr.buildSlice 138 2 #[(0, .slice a l m), (1, .slice b k n)]).run Try.prog w = .ok (.slice (some ⟨w.heap.size, 0, none⟩) 2 2) (w.alloc (.cells #[.slice a l m, .slice b k n] 44)) := by kernel_rfl
theorem run_bsc (c : Ck) (w : World) : (Instr.buildSlice 138 2 #[(0, c.gv), (1, c.fv)]).run Try.prog w = .ok (.slice (some ⟨w.heap.size, 0, none⟩) 2 2) (w.alloc (.cells #[c.gv, c.fv] 44)) := by
  have h : ∃ b k n, c.fv = .slice b k n := by
    unfold Ck.fv Ck.nv
    split
    · exact ⟨_, _, _, rfl⟩
    · exact ⟨_, _, _, rfl⟩
  obtain ⟨b, k, n, h⟩ := h
  rw [h]
  exact run_bs138 _ _ _ _ _ _ _
theorem set3 {w : World} {b : Nat} {u0 u1 u2 v0 v1 v2 : Value} {t : TypeId} (h : Has w b #[u0, u1, u2] t) : Has (((w.setCell ⟨b, 0, none⟩ v0).setCell ⟨b, 1, none⟩ v1).setCell ⟨b, 2, none⟩ v2) b #[v0, v1, v2] t ∧ Mod (fun k => k = b) w (((w.setCell ⟨b, 0, none⟩ v0).setCell ⟨b, 1, none⟩ v1).setCell ⟨b, 2, none⟩ v2) :=
  ⟨((h.set 0 v0).set 1 v1).set 2 v2, (((Mod.refl (fun k => k = b) w).set (p := ⟨b, 0, none⟩) rfl v0).set (p := ⟨b, 1, none⟩) rfl v1).set (p := ⟨b, 2, none⟩) rfl v2⟩
theorem results_ct {fn : Func} {p u : Tmp} {ty : TypeId} (h : fn.results = #[.cell p ty, .tmp u]) (tmps : Array Value) (P : Program) (w : World) :
    (results fn tmps).run P w = ((asAddr (tmps.getD p undef)).run P w).andThen fun a w₁ => ((loadVar ty a).run P w₁).andThen fun v w₂ => .ok (.tuple #[v, tmps.getD u undef]) w₂ := by
  simp only [results, h]
  simp [Sem.run_bind, Result.andThen]
theorem res_ct {fn : Func} {p u : Tmp} {tmps : Array Value} {w : World} {b : Nat} {v0 v1 v2 : Value} (h : fn.results = #[.cell p 34, .tmp u]) (hp : tmps.getD p undef = .pointer (some ⟨b, 0, none⟩)) (h1 : Has w b #[v0, v1, v2] 34) :
    (results fn tmps).run Try.prog w = .ok (.tuple #[.agg #[v0, v1, v2], tmps.getD u undef]) w := by
  have e0 := h1.cell 0 rfl
  have e1 := h1.cell 1 rfl
  have e2 := h1.cell 2 rfl
  rw [results_ct h, hp]
  simp [go_sem, e0, e1, e2]
/-- worlds while blocks are put behind one another -/
structure CoA (W1 : World) (c : Ck) (gs : List (Int × Int)) (k : Nat) (v : Value) (w' : World) : Prop where
  b : Below W1.heap.size W1 w'
  h0 : k = 0 → w' = W1.drew
  h1 : k = 1 → w'.heap.size = W1.heap.size + 1
  h2 : k = 2 → Has w' (W1.heap.size + 1) #[c.gv, c.fv] 44
  h3 : k = 3 → Gp (fun _ => True) w' v gs
section
variable {W1 w' w2 : World} {c : Ck} {gs : List (Int × Int)} {v u : Value}
theorem CoA.first (W1 : World) (c : Ck) (gs : List (Int × Int)) (v : Value) : CoA W1 c gs 0 v W1.drew := ⟨(Below.refl _ _).drew, fun _ => rfl, fun e => absurd e (by decide), fun e => absurd e (by decide), fun e => absurd e (by decide)⟩
theorem CoA.one (h : CoA W1 c gs 0 v W1.drew) : CoA W1 c gs (0 + 1) v (W1.drew.alloc (.cells (kcs c) 48)) := ⟨h.b.alloc h.b.size _, fun e => absurd e (by decide), fun _ => by simp, fun e => absurd e (by decide), fun e => absurd e (by decide)⟩
theorem CoA.two (h : CoA W1 c gs 1 v w') : CoA W1 c gs (1 + 1) v (w'.alloc (.cells #[c.gv, c.fv] 44)) :=
  ⟨h.b.alloc h.b.size _, fun e => absurd e (by decide), fun e => absurd e (by decide), fun _ => by rw [← h.h1 rfl]; exact Has.new _ _ _, fun e => absurd e (by decide)⟩
theorem CoA.three {Q : Nat → Prop} (h : CoA W1 c gs 2 v w') (hg : Gp Q w2 u gs) (hB : Below w'.heap.size w' w2) : CoA W1 c gs (2 + 1) u w2 :=
  ⟨h.b.trans (hB.mono h.b.size), fun e => absurd e (by decide), fun e => absurd e (by decide), fun e => absurd e (by decide), fun _ => hg.mono (fun _ _ => trivial)⟩
end
/-- worlds while a reading is laid -/
structure TlA (W : World) (t n N : Nat) (tl gd : Nat → Bool) (L : List Ch) (k : Nat) (x : Nat × Nat × Nat) (w' : World) : Prop where
  b : Below W.heap.size W w'
  ft : 1 ≤ k → W.heap.size ≤ x.1 ∧ Bw w' x.1 N tl
  fg : 3 ≤ k → W.heap.size ≤ x.2.1 ∧ Bw w' x.2.1 N gd
  fr : 4 ≤ k → ∃ ap nb, W.heap.size ≤ x.2.2 ∧ W.heap.size ≤ ap ∧ Rd w' x.2.2 t ap n N x.1 x.2.1 nb 0 0 ∧ Aw w' ap n (fun _ => ⟨0, false, 0, 0⟩) ∧ Bw w' nb N (nwl tl L)
section
variable {W w' w2 : World} {t n N b R ap nb : Nat} {tl gd : Nat → Bool} {L : List Ch} {x : Nat × Nat × Nat}
theorem TlA.first (W : World) (x : Nat × Nat × Nat) : TlA W t n N tl gd L 0 x W.drew := ⟨(Below.refl _ _).drew, fun e => absurd e (by decide), fun e => absurd e (by decide), fun e => absurd e (by decide)⟩
theorem TlA.one (h : TlA W t n N tl gd L 0 x w') (hl : w'.heap.size ≤ b) (hb : Bw w2 b N tl) (hB : Below w'.heap.size w' w2) : TlA W t n N tl gd L (0 + 1) (b, x.2) w2 :=
  ⟨h.b.trans (hB.mono h.b.size), fun _ => ⟨Nat.le_trans h.b.size hl, hb⟩, fun e => absurd e (by decide), fun e => absurd e (by decide)⟩
theorem TlA.two (h : TlA W t n N tl gd L 1 x w') (hB : Below w'.heap.size w' w2) : TlA W t n N tl gd L (1 + 1) x w2 :=
  ⟨h.b.trans (hB.mono h.b.size), fun _ => ⟨(h.ft (by decide)).1, (h.ft (by decide)).2.later hB⟩, fun e => absurd e (by decide), fun e => absurd e (by decide)⟩
theorem TlA.three (h : TlA W t n N tl gd L 2 x w') (hl : w'.heap.size ≤ b) (hb : Bw w2 b N gd) (hB : Below w'.heap.size w' w2) : TlA W t n N tl gd L (2 + 1) (x.1, b, x.2.2) w2 :=
  ⟨h.b.trans (hB.mono h.b.size), fun _ => ⟨(h.ft (by decide)).1, (h.ft (by decide)).2.later hB⟩, fun _ => ⟨Nat.le_trans h.b.size hl, hb⟩, fun e => absurd e (by decide)⟩
theorem TlA.four (h : TlA W t n N tl gd L 3 x w') (hR : w'.heap.size ≤ R) (ha : w'.heap.size ≤ ap) (h1 : Rd w2 R t ap n N x.1 x.2.1 nb 0 0) (h2 : Aw w2 ap n (fun _ => ⟨0, false, 0, 0⟩)) (h3 : Bw w2 nb N (nwl tl L)) (hB : Below w'.heap.size w' w2) : TlA W t n N tl gd L (3 + 1) (x.1, x.2.1, R) w2 :=
  ⟨h.b.trans (hB.mono h.b.size), fun _ => ⟨(h.ft (by decide)).1, (h.ft (by decide)).2.later hB⟩, fun _ => ⟨(h.fg (by decide)).1, (h.fg (by decide)).2.later hB⟩, fun _ => ⟨ap, nb, Nat.le_trans h.b.size hR, Nat.le_trans h.b.size ha, h1, h2, h3⟩⟩
end
/-- what a report comes to -/
def ReO (D : Nat → Prop) (w w' : World) (t f : Nat) (rv : Value) (S : St) (q : Rq) (now : Int) (e : Ending) : Prop :=
  (repE S q now ≠ 0 ∧ e = .returned (.tuple #[.agg #[.slice none 0 0, .int .i64 0, .int .i64 0], .int .i64 (repE S q now)]) ∧ Below w.heap.size w w') ∨
  (repE S q now = 0 ∧ ∃ ap, e = .returned (.tuple #[.agg #[.slice (some ⟨ap, 0, none⟩) S.n S.n, .int .i64 (frV (tlS S q) (gdS S q) S.L), .int .i64 (rnV (tlS S q) S.L)], .int .i64 0]) ∧ w.heap.size ≤ ap ∧ Aw w' ap S.n (fun p => akV (tlS S q) (gdS S q) now S.L p) ∧ (∃ rv', (∃ P', No D w' t f rv' P' (nextS (repS S q)) S.n (repS S q).L (fun k => fl (repS S q).L k) (Ob.mk (repS S q).L)) ∧ ∀ k, rv'.ownBlock = some k → rv.ownBlock = some k) ∧ Mod (FC t f rv) w w')
section
variable {D F Q : Nat → Prop} {w w' X X' : World} {t f : Nat} {rv : Value} {P : List CV} {nx : Int} {n K : Nat} {L L' M : List Ch} {i g o : Nat} {x y : Ch} {S : St} {q : Rq} {c : Ck} {now : Int}
set_option maxRecDepth 8000 in
set_option maxHeartbeats 4000000 in
theorem report (h : No D w t f rv P (nextS S) S.n S.L (fun k => fl S.L k) (Ob.mk S.L)) (hG : Good K S) (hR : Rp Q w c q) (hQ : ∀ k, Q k → k < w.heap.size) :
    Calls Try.prog 20 #[.pointer (some ⟨t, 0, none⟩), kv c, .int .i64 now] w fun e w' => ReO D w w' t f rv S q now e := by
  obtain ⟨W1, hW1⟩ : ∃ W1, W1 = (w.alloc (.cells (kcs c) 48)).alloc (.cells #[.slice none 0 0, .int .i64 0, .int .i64 0] 34) := ⟨_, rfl⟩
  have hO1 : Ow.Own w W1 [(w.heap.size + 1, #[.slice none 0 0, .int .i64 0, .int .i64 0], 34), (w.heap.size, kcs c, 48)] := by
    have := ((Ow.Own.refl w).alloc (kcs c) 48).alloc #[.slice none 0 0, .int .i64 0, .int .i64 0] 34
    simp only [World.size_alloc] at this
    rw [hW1]
    exact this
  have HO1 := hidden hO1
  have HN1 := hidden (h.later hO1.below)
  have HR1 := hidden (hR.later hO1.below)
  have HGG := hidden hG
  have HQ1 : Hid (∀ k, Q k → k < W1.heap.size) := fun k hk => Nat.lt_of_lt_of_le (hQ k hk) hO1.below.size
  have HFC : Hid (∀ k, FC t f rv k → k < w.heap.size) := fun k hk => h.lt hk
  have HKV : Hid (kv c = .agg (kcs c)) := rfl
  have HC10 : Hid (∀ w', Below W1.heap.size W1 w' → (Instr.loadAt 44 (.pointer (some ⟨w.heap.size, 10, none⟩))).run Try.prog w' = .ok c.gv w') := fun w' hB => by
    have := (hO1.later hB).cell (b := w.heap.size) (List.mem_cons_of_mem _ (List.mem_cons_self ..)) 10 (v := c.gv) rfl
    simp [go_sem, this]
  have HLD : Hid (∀ w', Below W1.heap.size W1 w' → (Instr.loadAt 48 (.pointer (some ⟨w.heap.size, 0, none⟩))).run Try.prog w' = .ok (kv c) w') := fun w' hB => load15 ((hO1.later hB).has (List.mem_cons_of_mem _ (List.mem_cons_self ..)))
  have HCC : Hid (∀ w', Has w' (W1.heap.size + 1) #[c.gv, c.fv] 44 → Below W1.heap.size W1 w' → Calls Try.prog 48 #[.slice (some ⟨W1.heap.size + 1, 0, none⟩) 2 2] w' fun e w2 => ∃ v, e = .returned v ∧ Gp (fun k => k = w'.heap.size) w2 v (q.gs ++ q.ns) ∧ Below w'.heap.size w' w2) := fun w' hh hB => by
    have h1 := HR1.out.later hB
    refine concat hh (h1.g.mono (fun k hk => Nat.lt_of_lt_of_le (HQ1.out k hk) hB.size)) (h1.f.mono (fun k hk => Nat.lt_of_lt_of_le (HQ1.out k hk) hB.size)) ?_
    have := hR.l
    have := hR.m
    unfold Rq.ns
    split
    · omega
    · simp; omega
  have EF : Hid (∀ (args : Array Value) (w : World), (callFunc 49 args).run Try.prog w = .ok (.enter 49 args) w) := enters_of Try.func49 (by kernel_rfl) rfl
  have EC : Hid (∀ (args : Array Value) (w : World), (callFunc 48 args).run Try.prog w = .ok (.enter 48 args) w) := enters_of Try.func48 (by kernel_rfl) rfl
  have HTS : Hid (c.tsn = q.tsn) := hR.ts
  have HKD : Hid (c.kd = q.kd) := hR.kd
  have HQT : Hid (0 ≤ q.tsn ∧ q.tsn < 4294967296) := ⟨hR.t0, hR.t1⟩
  unfold kcs at hW1
  have HW1 := hidden hW1
  have HNX : Hid (0 ≤ nextS S ∧ nextS S < 4294967296) := by show _ ∧ _; unfold nextS; omega
  clear h hG hR hQ hO1 hW1
  unfold kv kcs
  go_enter Try.func20, Try.ntmps20
  go_upto_region 1 with fail
  rw [← HW1.out]
  refine Ord.wp_region_ex0 (X := Value) (by kernel_rfl) 85 (fun x => [(some 11, .pointer (some ⟨w.heap.size, 10, none⟩)), (some 12, c.gv), (some 13, kv c), (some 14, c.fv), (some 15, .slice (some ⟨W1.heap.size + 1, 0, none⟩) 2 2), (some 16, x), (some 8, x)]) [some 11, some 12, some 13, some 14, some 15, some 16, some 8] rfl (fun listed hsz hr => Ord.all_listedC (rank := [0, 1, 2, 3, 4, 5, 6]) (by kernel_rfl) hsz hr) (by rfl) (fun _ => rfl) (by kernel_rfl) (Rg.StM [3, 4, 5] (fun sk sx w' => CoA W1 c (q.gs ++ q.ns) sk sx w')) (fun _ _ _ _ hL h => h.ext (n := 7) (by decide) hL) ?_ ?_ undef ?_
  case refine_1 =>
    intro x Lq iq oq ac w' ho hi hcl hdep hF hW
    have f1 : ac.tmps.size = 85 := hF.1
    match iq, ho, hi, hdep with
    | 0, ho, hi, hdep =>
      cases ho
      have da0 : ac.eval (.tmp 4) = .pointer (some ⟨w.heap.size, 0, none⟩) := hF.old 4 rfl
      exact Ord.ex_value x rfl rfl (Rg.fa da0 rfl (by simp [go_sem])) rfl (hW.keep (by decide))
    | 1, ho, hi, hdep =>
      cases ho
      have da0 : ac.eval (.tmp 11) = .pointer (some ⟨w.heap.size, 10, none⟩) := hF.2.2.2 0 11 _ rfl (hdep ⟨0, .data⟩ (by simp) rfl)
      obtain ⟨kq, hlo, hhi, hA⟩ := hW.range 0 1 (.inl rfl) (.inr ⟨4, rfl, (Rg.no_of (fun h => hcl 4 _ rfl (h) ⟨1, .data⟩ (by simp) rfl) hi)⟩)
      exact Ord.ex_value x rfl rfl (Rg.load da0 rfl (HC10.out _ (hA.b))) rfl (hW.keep (by decide))
    | 2, ho, hi, hdep =>
      cases ho
      have da0 : ac.eval (.tmp 4) = .pointer (some ⟨w.heap.size, 0, none⟩) := hF.old 4 rfl
      obtain ⟨kq, hlo, hhi, hA⟩ := hW.range 0 0 (.inl rfl) (.inr ⟨3, rfl, (Rg.no_of (fun h => hcl 3 _ rfl (h) ⟨2, .data⟩ (by simp) rfl) hi)⟩)
      exact Ord.ex_value x rfl rfl (Rg.load da0 rfl (HLD.out _ (hA.b))) rfl (hW.keep (by decide))
    | 3, ho, hi, hdep =>
      cases ho
      have da0 : ac.eval (.tmp 13) = kv c := hF.2.2.2 2 13 _ rfl (hdep ⟨2, .data⟩ (by simp) rfl)
      have hA := hW.at (k := 0) rfl hi (.inl rfl)
      have hw := hA.h0 rfl
      subst hw
      exact Rg.ex_call x rfl rfl (Rg.enter (args := #[kv c]) rfl rfl (by simp [da0]) EF.out) (Calls.mono (firm c W1.drew) (by rintro e w2 ⟨rfl, rfl⟩; exact ⟨rfl, hW.next (k := 0) rfl (by decide) hi (.inl rfl) (CoA.one hA)⟩))
    | 4, ho, hi, hdep =>
      cases ho
      have da0 : ac.eval (.tmp 12) = c.gv := hF.2.2.2 1 12 _ rfl (hdep ⟨1, .data⟩ (by simp) rfl)
      have da1 : ac.eval (.tmp 14) = c.fv := hF.2.2.2 3 14 _ rfl (hdep ⟨3, .data⟩ (by simp) rfl)
      have hA := hW.at (k := 1) rfl hi (.inr ⟨3, rfl, (hdep ⟨3, .data⟩ (by simp) rfl)⟩)
      exact Ord.ex_value x rfl rfl (Rg.bsl rfl (by simp [da0, da1]) (run_bsc _ _)) (by rw [hA.h1 rfl]; rfl) (hW.next (k := 1) rfl (by decide) hi (.inr ⟨3, rfl, (hdep ⟨3, .data⟩ (by simp) rfl)⟩) (CoA.two hA))
    | 5, ho, hi, hdep =>
      cases ho
      have da0 : ac.eval (.tmp 15) = .slice (some ⟨W1.heap.size + 1, 0, none⟩) 2 2 := hF.2.2.2 4 15 _ rfl (hdep ⟨4, .data⟩ (by simp) rfl)
      have hA := hW.at (k := 2) rfl hi (.inr ⟨4, rfl, (hdep ⟨4, .data⟩ (by simp) rfl)⟩)
      refine Rg.ex_calll x rfl rfl (Rg.enter (args := #[.slice (some ⟨W1.heap.size + 1, 0, none⟩) 2 2]) rfl rfl (by simp [da0]) EC.out) (Calls.mono (HCC.out _ (hA.h2 rfl) hA.b) ?_)
      rintro e w2 ⟨v, rfl, hg, hB⟩
      exact ⟨v, rfl, (fun j hj => match j, hj with | 0, _ => rfl | 1, _ => rfl | 2, _ => rfl | 3, _ => rfl | 4, _ => rfl | 5, hj => absurd hj (by rw [hi]; decide) | 6, hj => absurd hj (by rw [(Rg.no_of (fun h => hcl 6 _ rfl (h) ⟨5, .data⟩ (by simp) rfl) hi)]; decide) | _ + 7, _ => rfl), hW.next (k := 2) rfl (by decide) hi (.inr ⟨4, rfl, (hdep ⟨4, .data⟩ (by simp) rfl)⟩) (hA.three hg hB)⟩
    | 6, ho, hi, hdep =>
      cases ho
      have da0 : ac.eval (.tmp 16) = x := hF.2.2.2 5 16 _ rfl (hdep ⟨5, .data⟩ (by simp) rfl)
      exact Ord.ex_value x rfl rfl (Rg.asg da0 rfl) rfl (hW.keep (by decide))
  case refine_3 => exact Rg.StM.first (CoA.first W1 c _ _)
  case refine_2 =>
    intro v W2 hW
    have hA := hW.last
    clear hW
    simp only [Ord.puts, Ord.prs]
    go_simp
    have HO2 := hidden (HO1.out.later hA.b)
    have HN2 := hidden (HN1.out.later hA.b)
    have HR2 := hidden (HR1.out.later hA.b)
    have HG2 := hidden (hA.h3 rfl)
    have U := hidden (unmade HN2.out)
    have d0 : W2.cell? ⟨w.heap.size, 0, none⟩ = some (.int .u8 q.kd) := by rw [← HKD.out]; exact HO2.out.cell (b := w.heap.size) (List.mem_cons_of_mem _ (List.mem_cons_self ..)) 0 rfl
    have IS := hidden (isReport q.kd W2)
    have HIO := hidden (inOrder HG2.out)
    have hk : Hid (2 = 2) := rfl
    clear hA HC10 HCC EC
    go_wp2_with fail
    refine Calls.mono U.out ?_
    rintro e w' ⟨rfl, rfl⟩
    go_wp2_with fail
    refine Calls.mono IS.out ?_
    rintro e w' ⟨rfl, rfl⟩
    by_cases hkd : q.kd = 3 ∨ q.kd = 16
    case neg =>
      rw [decide_eq_false hkd]
      have HE : Hid (repE S q now = 172) := by
        show _ = _
        unfold repE
        rw [if_pos (.inl hkd)]
      have HOE := hidden (HO2.out)
      have e6 : True := trivial
      obtain ⟨z0, z1, z2⟩ : _ ∧ _ ∧ _ := ⟨HOE.out.cell (List.mem_cons_self ..) 0 rfl, HOE.out.cell (List.mem_cons_self ..) 1 rfl, HOE.out.cell (List.mem_cons_self ..) 2 rfl⟩
      have zf := HOE.out.frozen (b := w.heap.size + 1) (List.mem_cons_self ..)
      clear U IS HIO HN2 HR2 HG2 hkd
      go_wp2
      obtain ⟨y1, y2⟩ := set3 (v0 := .slice none 0 0) (v1 := .int .i64 0) (v2 := .int .i64 0) (HOE.out.has (List.mem_cons_self ..))
      refine bodyPost_ret (res_ct rfl rfl y1) rfl (.inl ⟨by rw [HE.out]; decide, by rw [HE.out]; rfl, HOE.out.below.trans (y2.below HOE.out.below.size (fun k hk => by omega))⟩)
    case pos =>
      rw [decide_eq_true hkd]
      have HKK := hidden hkd
      clear hkd d0 IS
      go_wp2_with fail
      refine Calls.mono HIO.out ?_
      rintro e W3 ⟨rfl, hB3⟩
      have HO3 := hidden (HO2.out.later hB3)
      have HN3 := hidden (HN2.out.later hB3)
      have HG3 := hidden (HG2.out.later hB3)
      have HR3 := hidden (HR2.out.later hB3)
      clear HO2 HN2 HG2 HIO hB3 HR2 U
      cases hord : ord (q.gs ++ q.ns) with
      | false =>
        have HE : Hid (repE S q now = 172) := by
          show _ = _
          unfold repE
          rw [if_pos (.inr hord)]
        have HOE := hidden (HO3.out)
        have e6 : True := trivial
        obtain ⟨z0, z1, z2⟩ : _ ∧ _ ∧ _ := ⟨HOE.out.cell (List.mem_cons_self ..) 0 rfl, HOE.out.cell (List.mem_cons_self ..) 1 rfl, HOE.out.cell (List.mem_cons_self ..) 2 rfl⟩
        have zf := HOE.out.frozen (b := w.heap.size + 1) (List.mem_cons_self ..)
        clear HN3 HG3 hord
        go_wp2
        obtain ⟨y1, y2⟩ := set3 (v0 := .slice none 0 0) (v1 := .int .i64 0) (v2 := .int .i64 0) (HOE.out.has (List.mem_cons_self ..))
        refine bodyPost_ret (res_ct rfl rfl y1) rfl (.inl ⟨by rw [HE.out]; decide, by rw [HE.out]; rfl, HOE.out.below.trans (y2.below HOE.out.below.size (fun k hk => by omega))⟩)
      | true =>
        have HORD := hidden hord
        have IT := hidden (isTime now W3)
        clear hord
        go_wp2_with fail
        refine Calls.mono IT.out ?_
        rintro e w' ⟨rfl, rfl⟩
        by_cases hnow : 0 ≤ now ∧ now ≤ 1099511627776
        case neg =>
          rw [decide_eq_false hnow]
          have HE : Hid (repE S q now = 1) := by
            show _ = _
            unfold repE
            rw [if_neg (fun h => h.elim (fun h => h HKK.out) (fun h => by rw [HORD.out] at h; cases h)), if_pos (by omega)]
          have HOE := hidden (HO3.out)
          have e6 : True := trivial
          obtain ⟨z0, z1, z2⟩ : _ ∧ _ ∧ _ := ⟨HOE.out.cell (List.mem_cons_self ..) 0 rfl, HOE.out.cell (List.mem_cons_self ..) 1 rfl, HOE.out.cell (List.mem_cons_self ..) 2 rfl⟩
          have zf := HOE.out.frozen (b := w.heap.size + 1) (List.mem_cons_self ..)
          clear HN3 HG3 IT hnow
          go_wp2
          obtain ⟨y1, y2⟩ := set3 (v0 := .slice none 0 0) (v1 := .int .i64 0) (v2 := .int .i64 0) (HOE.out.has (List.mem_cons_self ..))
          refine bodyPost_ret (res_ct rfl rfl y1) rfl (.inl ⟨by rw [HE.out]; decide, by rw [HE.out]; rfl, HOE.out.below.trans (y2.below HOE.out.below.size (fun k hk => by omega))⟩)
        case pos =>
          rw [decide_eq_true hnow]
          have HNOW := hidden hnow
          have HE0 : Hid (repE S q now = if 2147483648 < (q.tsn - S.c) % 4294967296 then 170 else if (S.L.length : Int) < (q.tsn - S.c) % 4294967296 + far (q.gs ++ q.ns) then 171 else 0) := by
            show _ = _
            unfold repE
            rw [if_neg (fun h => h.elim (fun h => h HKK.out) (fun h => by rw [HORD.out] at h; cases h)), if_neg (by omega)]
          obtain ⟨W2', hw2⟩ : ∃ W2', W2' = W3 := ⟨_, rfl⟩
          clear hw2 W2' hnow IT
          have HCM : Hid (∀ w', Below W3.heap.size W3 w' → Calls Try.prog 19 #[.pointer (some ⟨t, 0, none⟩)] w' fun e w2 => e = .returned (.int .u32 S.c) ∧ ∃ m, w2 = w'.drewN m) := fun w' hB => by
            have := cum (HN3.out.later hB) (by have := HGG.out.len; have := HGG.out.k; omega)
            have e1 : (nextS S - (S.L.length : Int) - 1) % 4294967296 = S.c := by have := HGG.out.c0; have := HGG.out.c1; unfold nextS; omega
            rw [e1] at this
            exact this
          have HC2 : Hid (∀ w', Below W3.heap.size W3 w' → (Instr.loadAt 22 (.pointer (some ⟨w.heap.size, 2, none⟩))).run Try.prog w' = .ok (.int .u32 q.tsn) w') := fun w' hB => by
            have := (HO3.out.later hB).cell (b := w.heap.size) (List.mem_cons_of_mem _ (List.mem_cons_self ..)) 2 (v := .int .u32 c.tsn) rfl
            rw [HTS.out] at this
            simp [go_sem, this]
          have HLS : Hid (∀ w', Below W3.heap.size W3 w' → Calls Try.prog 52 #[.int .u32 q.tsn, .int .u32 S.c] w' fun e w2 => e = .returned (.bool (decide (0 < Ser.dist 4294967296 q.tsn S.c))) ∧ w' = w2) := fun w' _ => Ser.less _ _ HQT.out ⟨HGG.out.c0, HGG.out.c1⟩ w'
          have EM : Hid (∀ (args : Array Value) (w : World), (callFunc 19 args).run Try.prog w = .ok (.enter 19 args) w) := enters_of Try.func19 (by kernel_rfl) rfl
          have EL : Hid (∀ (args : Array Value) (w : World), (callFunc 52 args).run Try.prog w = .ok (.enter 52 args) w) := enters_of Try.func52 (by kernel_rfl) rfl
          by_cases hless : 2147483648 < (q.tsn - S.c) % 4294967296
          case pos =>
            rw [decide_eq_true ((less_up ⟨HGG.out.c0, HGG.out.c1⟩ HQT.out).2 hless)] at HLS
            have HLE := hidden hless
            clear hless
            go_upto_region 8 with fail
            refine Ord.wp_region_ex0 (X := Unit) (by kernel_rfl) 85 (fun x => [(some 38, .pointer (some ⟨w.heap.size, 2, none⟩)), (some 39, .int .u32 q.tsn), (some 40, .pointer (some ⟨t, 0, none⟩)), (some 41, .int .u32 S.c), (some 42, .bool true), (some 37, .bool true)]) [some 38, some 39, some 40, some 41, some 42, some 37] rfl (fun listed hsz hr => Ord.all_listedC (rank := [0, 1, 2, 3, 4, 5]) (by kernel_rfl) hsz hr) (by rfl) (fun _ => rfl) (by kernel_rfl) (Rg.StM [] (fun sk sx w' => Below W3.heap.size W3 w')) (fun _ _ _ _ hL h => h.ext (n := 6) (by decide) hL) ?_ ?_ () ?_
            case refine_1 =>
              intro x Lq iq oq ac w' ho hi hcl hdep hF hW
              have f1 : ac.tmps.size = 85 := hF.1
              match iq, ho, hi, hdep with
              | 0, ho, hi, hdep =>
                cases ho
                have da0 : ac.eval (.tmp 4) = .pointer (some ⟨w.heap.size, 0, none⟩) := hF.old 4 rfl
                exact Ord.ex_value x rfl rfl (Rg.fa da0 rfl (by simp [go_sem])) rfl (hW.keep (by decide))
              | 1, ho, hi, hdep =>
                cases ho
                have da0 : ac.eval (.tmp 38) = .pointer (some ⟨w.heap.size, 2, none⟩) := hF.2.2.2 0 38 _ rfl (hdep ⟨0, .data⟩ (by simp) rfl)
                exact Ord.ex_value x rfl rfl (Rg.load da0 rfl (HC2.out _ hW.only)) rfl (hW.keep (by decide))
              | 2, ho, hi, hdep =>
                cases ho
                have da0 : ac.eval (.tmp 0) = .pointer (some ⟨t, 0, none⟩) := hF.old 0 rfl
                exact Ord.ex_value x rfl rfl (Rg.mv da0 rfl) rfl (hW.keep (by decide))
              | 3, ho, hi, hdep =>
                cases ho
                have da0 : ac.eval (.tmp 40) = .pointer (some ⟨t, 0, none⟩) := hF.2.2.2 2 40 _ rfl (hdep ⟨2, .data⟩ (by simp) rfl)
                obtain ⟨kq, hlo, hhi, hA⟩ := hW.range 0 0 (.inl rfl) (.inl rfl)
                have hA := hW.only
                exact Rg.ex_call x rfl rfl (Rg.enter (args := #[.pointer (some ⟨t, 0, none⟩)]) rfl rfl (by simp [da0]) EM.out) (Calls.mono (HCM.out _ hA) (by rintro e w2 ⟨rfl, m, rfl⟩; exact ⟨rfl, Rg.StM.nil (Below.drewN hA m)⟩))
              | 4, ho, hi, hdep =>
                cases ho
                have da0 : ac.eval (.tmp 39) = .int .u32 q.tsn := hF.2.2.2 1 39 _ rfl (hdep ⟨1, .data⟩ (by simp) rfl)
                have da1 : ac.eval (.tmp 41) = .int .u32 S.c := hF.2.2.2 3 41 _ rfl (hdep ⟨3, .data⟩ (by simp) rfl)
                obtain ⟨kq, hlo, hhi, hA⟩ := hW.range 0 0 (.inl rfl) (.inl rfl)
                have hA := hW.only
                exact Rg.ex_call x rfl rfl (Rg.enter (args := #[.int .u32 q.tsn, .int .u32 S.c]) rfl rfl (by simp [da0, da1]) EL.out) (Calls.mono (HLS.out _ hA) (by rintro e w2 ⟨rfl, rfl⟩; exact ⟨rfl, Rg.StM.nil (hA)⟩))
              | 5, ho, hi, hdep =>
                cases ho
                have da0 : ac.eval (.tmp 42) = .bool true := hF.2.2.2 4 42 _ rfl (hdep ⟨4, .data⟩ (by simp) rfl)
                exact Ord.ex_value x rfl rfl (Rg.asg da0 rfl) rfl (hW.keep (by decide))
            case refine_3 => exact Rg.StM.first (Below.refl _ _).drew
            case refine_2 =>
              intro xu W4 hW
              have hA := hW.last
              clear hW
              simp only [Ord.puts, Ord.prs]
              go_simp
              have HE : Hid (repE S q now = 170) := by
                show _ = _
                rw [HE0.out, if_pos HLE.out]
              have HOE := hidden (HO3.out.later hA)
              have e6 : True := trivial
              obtain ⟨z0, z1, z2⟩ : _ ∧ _ ∧ _ := ⟨HOE.out.cell (List.mem_cons_self ..) 0 rfl, HOE.out.cell (List.mem_cons_self ..) 1 rfl, HOE.out.cell (List.mem_cons_self ..) 2 rfl⟩
              have zf := HOE.out.frozen (b := w.heap.size + 1) (List.mem_cons_self ..)
              clear HN3 HG3 HCM HC2 HLS hA
              go_wp2
              obtain ⟨y1, y2⟩ := set3 (v0 := .slice none 0 0) (v1 := .int .i64 0) (v2 := .int .i64 0) (HOE.out.has (List.mem_cons_self ..))
              refine bodyPost_ret (res_ct rfl rfl y1) rfl (.inl ⟨by rw [HE.out]; decide, by rw [HE.out]; rfl, HOE.out.below.trans (y2.below HOE.out.below.size (fun k hk => by omega))⟩)
          case neg =>
            rw [decide_eq_false (fun h => hless ((less_up ⟨HGG.out.c0, HGG.out.c1⟩ HQT.out).1 h))] at HLS
            have HLE := hidden hless
            clear hless
            go_upto_region 8 with fail
            refine Ord.wp_region_ex0 (X := Unit) (by kernel_rfl) 85 (fun x => [(some 38, .pointer (some ⟨w.heap.size, 2, none⟩)), (some 39, .int .u32 q.tsn), (some 40, .pointer (some ⟨t, 0, none⟩)), (some 41, .int .u32 S.c), (some 42, .bool false), (some 37, .bool false)]) [some 38, some 39, some 40, some 41, some 42, some 37] rfl (fun listed hsz hr => Ord.all_listedC (rank := [0, 1, 2, 3, 4, 5]) (by kernel_rfl) hsz hr) (by rfl) (fun _ => rfl) (by kernel_rfl) (Rg.StM [] (fun sk sx w' => Below W3.heap.size W3 w')) (fun _ _ _ _ hL h => h.ext (n := 6) (by decide) hL) ?_ ?_ () ?_
            case refine_1 =>
              intro x Lq iq oq ac w' ho hi hcl hdep hF hW
              have f1 : ac.tmps.size = 85 := hF.1
              match iq, ho, hi, hdep with
              | 0, ho, hi, hdep =>
                cases ho
                have da0 : ac.eval (.tmp 4) = .pointer (some ⟨w.heap.size, 0, none⟩) := hF.old 4 rfl
                exact Ord.ex_value x rfl rfl (Rg.fa da0 rfl (by simp [go_sem])) rfl (hW.keep (by decide))
              | 1, ho, hi, hdep =>
                cases ho
                have da0 : ac.eval (.tmp 38) = .pointer (some ⟨w.heap.size, 2, none⟩) := hF.2.2.2 0 38 _ rfl (hdep ⟨0, .data⟩ (by simp) rfl)
                exact Ord.ex_value x rfl rfl (Rg.load da0 rfl (HC2.out _ hW.only)) rfl (hW.keep (by decide))
              | 2, ho, hi, hdep =>
                cases ho
                have da0 : ac.eval (.tmp 0) = .pointer (some ⟨t, 0, none⟩) := hF.old 0 rfl
                exact Ord.ex_value x rfl rfl (Rg.mv da0 rfl) rfl (hW.keep (by decide))
              | 3, ho, hi, hdep =>
                cases ho
                have da0 : ac.eval (.tmp 40) = .pointer (some ⟨t, 0, none⟩) := hF.2.2.2 2 40 _ rfl (hdep ⟨2, .data⟩ (by simp) rfl)
                obtain ⟨kq, hlo, hhi, hA⟩ := hW.range 0 0 (.inl rfl) (.inl rfl)
                have hA := hW.only
                exact Rg.ex_call x rfl rfl (Rg.enter (args := #[.pointer (some ⟨t, 0, none⟩)]) rfl rfl (by simp [da0]) EM.out) (Calls.mono (HCM.out _ hA) (by rintro e w2 ⟨rfl, m, rfl⟩; exact ⟨rfl, Rg.StM.nil (Below.drewN hA m)⟩))
              | 4, ho, hi, hdep =>
                cases ho
                have da0 : ac.eval (.tmp 39) = .int .u32 q.tsn := hF.2.2.2 1 39 _ rfl (hdep ⟨1, .data⟩ (by simp) rfl)
                have da1 : ac.eval (.tmp 41) = .int .u32 S.c := hF.2.2.2 3 41 _ rfl (hdep ⟨3, .data⟩ (by simp) rfl)
                obtain ⟨kq, hlo, hhi, hA⟩ := hW.range 0 0 (.inl rfl) (.inl rfl)
                have hA := hW.only
                exact Rg.ex_call x rfl rfl (Rg.enter (args := #[.int .u32 q.tsn, .int .u32 S.c]) rfl rfl (by simp [da0, da1]) EL.out) (Calls.mono (HLS.out _ hA) (by rintro e w2 ⟨rfl, rfl⟩; exact ⟨rfl, Rg.StM.nil (hA)⟩))
              | 5, ho, hi, hdep =>
                cases ho
                have da0 : ac.eval (.tmp 42) = .bool false := hF.2.2.2 4 42 _ rfl (hdep ⟨4, .data⟩ (by simp) rfl)
                exact Ord.ex_value x rfl rfl (Rg.asg da0 rfl) rfl (hW.keep (by decide))
            case refine_3 => exact Rg.StM.first (Below.refl _ _).drew
            case refine_2 =>
              intro xu W4 hW
              have hA := hW.last
              clear hW
              simp only [Ord.puts, Ord.prs]
              go_simp
              have HO4 := hidden (HO3.out.later hA)
              have HN4 := hidden (HN3.out.later hA)
              have HG4 := hidden (HG3.out.later hA)
              have HR4 := hidden (HR3.out.later hA)
              clear HO3 HN3 HG3 HR3 HCM HC2 HLS hA
              have HFR : Hid (0 ≤ far (q.gs ++ q.ns) ∧ far (q.gs ++ q.ns) < 65536) := ⟨far_nn _, by
                obtain ⟨_, _, _, _, hn, _⟩ := HG4.out
                exact far_lt _ hn⟩
              have HPU := hidden (past_up ⟨HGG.out.c0, HGG.out.c1⟩ HQT.out (by have := HLE.out; omega) (by have := HGG.out.len; have := HGG.out.k; omega) (far (q.gs ++ q.ns)) HFR.out)
              obtain ⟨fa, hfa⟩ : ∃ fa, fa = far (q.gs ++ q.ns) := ⟨_, rfl⟩
              obtain ⟨ta, hta⟩ : ∃ ta, ta = (q.tsn + fa) % 4294967296 := ⟨_, rfl⟩
              rw [← hfa, ← hta] at HPU
              have HTA := hidden (And.intro hfa hta)
              have HC2 : Hid (∀ w', Below W4.heap.size W4 w' → (Instr.loadAt 22 (.pointer (some ⟨w.heap.size, 2, none⟩))).run Try.prog w' = .ok (.int .u32 q.tsn) w') := fun w' hB => by
                have := (HO4.out.later hB).cell (b := w.heap.size) (List.mem_cons_of_mem _ (List.mem_cons_self ..)) 2 (v := .int .u32 c.tsn) rfl
                rw [HTS.out] at this
                simp [go_sem, this]
              have HU1 : Hid (∀ w', Below W4.heap.size W4 w' → Calls Try.prog 53 #[.pointer (some ⟨t, 0, none⟩), .int .u32 q.tsn] w' fun e w2 => e = .returned (.bool (decide (0 ≤ Ser.dist 4294967296 (nextS S) q.tsn))) ∧ w' = w2) := fun w' hB => unsent (HN4.out.later hB) HNX.out _ HQT.out
              have HU2 : Hid (∀ w', Below W4.heap.size W4 w' → Calls Try.prog 53 #[.pointer (some ⟨t, 0, none⟩), .int .u32 ta] w' fun e w2 => e = .returned (.bool (decide (0 ≤ Ser.dist 4294967296 (nextS S) ta))) ∧ w' = w2) := fun w' hB => unsent (HN4.out.later hB) HNX.out _ (by rw [hta]; omega)
              have HFA : Hid (∀ w', Below W4.heap.size W4 w' → Calls Try.prog 54 #[v] w' fun e w2 => e = .returned (.int .u32 fa) ∧ Below w'.heap.size w' w2) := fun w' hB => by rw [hfa]; exact farthest (HG4.out.later hB)
              have HAD : Hid (∀ w', Below W4.heap.size W4 w' → Calls Try.prog 47 #[.int .u32 q.tsn, .int .u32 fa] w' fun e w2 => e = .returned (.int .u32 ta) ∧ w' = w2) := fun w' hB => by rw [hta]; exact Ser.add _ _ w'
              have EU : Hid (∀ (args : Array Value) (w : World), (callFunc 53 args).run Try.prog w = .ok (.enter 53 args) w) := enters_of Try.func53 (by kernel_rfl) rfl
              have EA : Hid (∀ (args : Array Value) (w : World), (callFunc 54 args).run Try.prog w = .ok (.enter 54 args) w) := enters_of Try.func54 (by kernel_rfl) rfl
              have ED : Hid (∀ (args : Array Value) (w : World), (callFunc 47 args).run Try.prog w = .ok (.enter 47 args) w) := enters_of Try.func47 (by kernel_rfl) rfl
              clear hfa hta
              by_cases hu1 : 0 ≤ Ser.dist 4294967296 (nextS S) q.tsn
              case pos =>
                rw [decide_eq_true hu1] at HU1
                have HU3 := hidden (HPU.out.1 (.inl hu1))
                clear hu1
                go_upto_region 10 with fail
                refine Ord.wp_region_ex0 (X := Unit) (by kernel_rfl) 85 (fun x => [(some 45, .pointer (some ⟨t, 0, none⟩)), (some 46, .pointer (some ⟨w.heap.size, 2, none⟩)), (some 47, .int .u32 q.tsn), (some 48, .bool true), (some 49, .bool true), (some 50, undef), (some 51, undef), (some 52, undef), (some 53, undef), (some 54, undef), (some 55, undef), (some 56, undef), (some 57, .bool true), (some 44, .bool true)]) [some 45, some 46, some 47, some 48, some 49, some 50, some 51, some 52, some 53, some 54, some 55, some 56, some 57, some 44] rfl (fun listed hsz hr => Ord.all_listedC (rank := [0, 1, 2, 3, 4, 5, 6, 7, 8, 9, 10, 11, 12, 13]) (by kernel_rfl) hsz hr) (by rfl) (fun _ => rfl) (by kernel_rfl) (Rg.StM [] (fun sk sx w' => Below W4.heap.size W4 w')) (fun _ _ _ _ hL h => h.ext (n := 14) (by decide) hL) ?_ ?_ () ?_
                case refine_1 =>
                  intro x Lq iq oq ac w' ho hi hcl hdep hF hW
                  have f1 : ac.tmps.size = 85 := hF.1
                  match iq, ho, hi, hdep with
                  | 0, ho, hi, hdep =>
                    cases ho
                    have da0 : ac.eval (.tmp 0) = .pointer (some ⟨t, 0, none⟩) := hF.old 0 rfl
                    exact Ord.ex_value x rfl rfl (Rg.mv da0 rfl) rfl (hW.keep (by decide))
                  | 1, ho, hi, hdep =>
                    cases ho
                    have da0 : ac.eval (.tmp 4) = .pointer (some ⟨w.heap.size, 0, none⟩) := hF.old 4 rfl
                    exact Ord.ex_value x rfl rfl (Rg.fa da0 rfl (by simp [go_sem])) rfl (hW.keep (by decide))
                  | 2, ho, hi, hdep =>
                    cases ho
                    have da0 : ac.eval (.tmp 46) = .pointer (some ⟨w.heap.size, 2, none⟩) := hF.2.2.2 1 46 _ rfl (hdep ⟨1, .data⟩ (by simp) rfl)
                    exact Ord.ex_value x rfl rfl (Rg.load da0 rfl (HC2.out _ hW.only)) rfl (hW.keep (by decide))
                  | 3, ho, hi, hdep =>
                    cases ho
                    have da0 : ac.eval (.tmp 45) = .pointer (some ⟨t, 0, none⟩) := hF.2.2.2 0 45 _ rfl (hdep ⟨0, .data⟩ (by simp) rfl)
                    have da1 : ac.eval (.tmp 47) = .int .u32 q.tsn := hF.2.2.2 2 47 _ rfl (hdep ⟨2, .data⟩ (by simp) rfl)
                    obtain ⟨kq, hlo, hhi, hA⟩ := hW.range 0 0 (.inl rfl) (.inl rfl)
                    have hA := hW.only
                    exact Rg.ex_call x rfl rfl (Rg.enter (args := #[.pointer (some ⟨t, 0, none⟩), .int .u32 q.tsn]) rfl rfl (by simp [da0, da1]) EU.out) (Calls.mono (HU1.out _ hA) (by rintro e w2 ⟨rfl, rfl⟩; exact ⟨rfl, Rg.StM.nil (hA)⟩))
                  | 4, ho, hi, hdep =>
                    cases ho
                    have da0 : ac.eval (.tmp 48) = .bool true := hF.2.2.2 3 48 _ rfl (hdep ⟨3, .data⟩ (by simp) rfl)
                    exact Ord.ex_value x rfl rfl (Rg.mv da0 rfl) rfl (hW.keep (by decide))
                  | 5, ho, hi, hdep =>
                    cases ho
                    have dg : ac.eval (.tmp 49) = .bool true := hF.2.2.2 4 49 _ rfl (hdep ⟨4, .guard⟩ (by simp) rfl)
                    exact Cw.ex_not x rfl (Ord.wanted_no (bv := false) dg (by rw [f1]; decide) rfl rfl) rfl (hW.keep (by decide))
                  | 6, ho, hi, hdep =>
                    cases ho
                    have dg : ac.eval (.tmp 49) = .bool true := hF.2.2.2 4 49 _ rfl (hdep ⟨4, .guard⟩ (by simp) rfl)
                    exact Cw.ex_not x rfl (Ord.wanted_no (bv := false) dg (by rw [f1]; decide) rfl rfl) rfl (hW.keep (by decide))
                  | 7, ho, hi, hdep =>
                    cases ho
                    have dg : ac.eval (.tmp 49) = .bool true := hF.2.2.2 4 49 _ rfl (hdep ⟨4, .guard⟩ (by simp) rfl)
                    exact Cw.ex_not x rfl (Ord.wanted_no (bv := false) dg (by rw [f1]; decide) rfl rfl) rfl (hW.keep (by decide))
                  | 8, ho, hi, hdep =>
                    cases ho
                    have dg : ac.eval (.tmp 49) = .bool true := hF.2.2.2 4 49 _ rfl (hdep ⟨4, .guard⟩ (by simp) rfl)
                    exact Cw.ex_not x rfl (Ord.wanted_no (bv := false) dg (by rw [f1]; decide) rfl rfl) rfl (hW.keep (by decide))
                  | 9, ho, hi, hdep =>
                    cases ho
                    have dg : ac.eval (.tmp 49) = .bool true := hF.2.2.2 4 49 _ rfl (hdep ⟨4, .guard⟩ (by simp) rfl)
                    exact Cw.ex_not x rfl (Ord.wanted_no (bv := false) dg (by rw [f1]; decide) rfl rfl) rfl (hW.keep (by decide))
                  | 10, ho, hi, hdep =>
                    cases ho
                    have dg : ac.eval (.tmp 49) = .bool true := hF.2.2.2 4 49 _ rfl (hdep ⟨4, .guard⟩ (by simp) rfl)
                    exact Cw.ex_not x rfl (Ord.wanted_no (bv := false) dg (by rw [f1]; decide) rfl rfl) rfl (hW.keep (by decide))
                  | 11, ho, hi, hdep =>
                    cases ho
                    have dg : ac.eval (.tmp 49) = .bool true := hF.2.2.2 4 49 _ rfl (hdep ⟨4, .guard⟩ (by simp) rfl)
                    exact Cw.ex_not x rfl (Ord.wanted_no (bv := false) dg (by rw [f1]; decide) rfl rfl) rfl (hW.keep (by decide))
                  | 12, ho, hi, hdep =>
                    cases ho
                    have da0 : ac.eval (.tmp 49) = .bool true := hF.2.2.2 4 49 _ rfl (hdep ⟨4, .data⟩ (by simp) rfl)
                    have da1 : ac.eval (.tmp 56) = undef := hF.2.2.2 11 56 _ rfl (hdep ⟨11, .data⟩ (by simp) rfl)
                    exact Ord.ex_value x rfl rfl (Rg.pick_t da0 rfl rfl) rfl (hW.keep (by decide))
                  | 13, ho, hi, hdep =>
                    cases ho
                    have da0 : ac.eval (.tmp 57) = .bool true := hF.2.2.2 12 57 _ rfl (hdep ⟨12, .data⟩ (by simp) rfl)
                    exact Ord.ex_value x rfl rfl (Rg.asg da0 rfl) rfl (hW.keep (by decide))
                case refine_3 => exact Rg.StM.first (Below.refl _ _).drew
                case refine_2 =>
                  intro xu W5 hW
                  have hA := hW.last
                  clear hW
                  simp only [Ord.puts, Ord.prs]
                  go_simp
                  have HE : Hid (repE S q now = 171) := by
                    show _ = _
                    rw [HE0.out, if_neg (show ¬ 2147483648 < (q.tsn - S.c) % 4294967296 by have := HLE.out; omega), ← HTA.out.1, if_pos HU3.out]
                  have HOE := hidden (HO4.out.later hA)
                  have e6 : True := trivial
                  obtain ⟨z0, z1, z2⟩ : _ ∧ _ ∧ _ := ⟨HOE.out.cell (List.mem_cons_self ..) 0 rfl, HOE.out.cell (List.mem_cons_self ..) 1 rfl, HOE.out.cell (List.mem_cons_self ..) 2 rfl⟩
                  have zf := HOE.out.frozen (b := w.heap.size + 1) (List.mem_cons_self ..)
                  clear HN4 HG4 HC2 HU1 HU2 HFA HAD hA
                  go_wp2
                  obtain ⟨y1, y2⟩ := set3 (v0 := .slice none 0 0) (v1 := .int .i64 0) (v2 := .int .i64 0) (HOE.out.has (List.mem_cons_self ..))
                  refine bodyPost_ret (res_ct rfl rfl y1) rfl (.inl ⟨by rw [HE.out]; decide, by rw [HE.out]; rfl, HOE.out.below.trans (y2.below HOE.out.below.size (fun k hk => by omega))⟩)
              case neg =>
                rw [decide_eq_false hu1] at HU1
                by_cases hu2 : 0 ≤ Ser.dist 4294967296 (nextS S) ta
                case pos =>
                  rw [decide_eq_true hu2] at HU2
                  have HU3 := hidden (HPU.out.1 (.inr hu2))
                  clear hu1 hu2
                  go_upto_region 10 with fail
                  refine Ord.wp_region_ex0 (X := Unit) (by kernel_rfl) 85 (fun x => [(some 45, .pointer (some ⟨t, 0, none⟩)), (some 46, .pointer (some ⟨w.heap.size, 2, none⟩)), (some 47, .int .u32 q.tsn), (some 48, .bool false), (some 49, .bool false), (some 50, .pointer (some ⟨t, 0, none⟩)), (some 51, .pointer (some ⟨w.heap.size, 2, none⟩)), (some 52, .int .u32 q.tsn), (some 53, v), (some 54, .int .u32 fa), (some 55, .int .u32 ta), (some 56, .bool true), (some 57, .bool true), (some 44, .bool true)]) [some 45, some 46, some 47, some 48, some 49, some 50, some 51, some 52, some 53, some 54, some 55, some 56, some 57, some 44] rfl (fun listed hsz hr => Ord.all_listedC (rank := [0, 1, 2, 3, 4, 5, 6, 7, 8, 9, 10, 11, 12, 13]) (by kernel_rfl) hsz hr) (by rfl) (fun _ => rfl) (by kernel_rfl) (Rg.StM [] (fun sk sx w' => Below W4.heap.size W4 w')) (fun _ _ _ _ hL h => h.ext (n := 14) (by decide) hL) ?_ ?_ () ?_
                  case refine_1 =>
                    intro x Lq iq oq ac w' ho hi hcl hdep hF hW
                    have f1 : ac.tmps.size = 85 := hF.1
                    match iq, ho, hi, hdep with
                    | 0, ho, hi, hdep =>
                      cases ho
                      have da0 : ac.eval (.tmp 0) = .pointer (some ⟨t, 0, none⟩) := hF.old 0 rfl
                      exact Ord.ex_value x rfl rfl (Rg.mv da0 rfl) rfl (hW.keep (by decide))
                    | 1, ho, hi, hdep =>
                      cases ho
                      have da0 : ac.eval (.tmp 4) = .pointer (some ⟨w.heap.size, 0, none⟩) := hF.old 4 rfl
                      exact Ord.ex_value x rfl rfl (Rg.fa da0 rfl (by simp [go_sem])) rfl (hW.keep (by decide))
                    | 2, ho, hi, hdep =>
                      cases ho
                      have da0 : ac.eval (.tmp 46) = .pointer (some ⟨w.heap.size, 2, none⟩) := hF.2.2.2 1 46 _ rfl (hdep ⟨1, .data⟩ (by simp) rfl)
                      exact Ord.ex_value x rfl rfl (Rg.load da0 rfl (HC2.out _ hW.only)) rfl (hW.keep (by decide))
                    | 3, ho, hi, hdep =>
                      cases ho
                      have da0 : ac.eval (.tmp 45) = .pointer (some ⟨t, 0, none⟩) := hF.2.2.2 0 45 _ rfl (hdep ⟨0, .data⟩ (by simp) rfl)
                      have da1 : ac.eval (.tmp 47) = .int .u32 q.tsn := hF.2.2.2 2 47 _ rfl (hdep ⟨2, .data⟩ (by simp) rfl)
                      obtain ⟨kq, hlo, hhi, hA⟩ := hW.range 0 0 (.inl rfl) (.inl rfl)
                      have hA := hW.only
                      exact Rg.ex_call x rfl rfl (Rg.enter (args := #[.pointer (some ⟨t, 0, none⟩), .int .u32 q.tsn]) rfl rfl (by simp [da0, da1]) EU.out) (Calls.mono (HU1.out _ hA) (by rintro e w2 ⟨rfl, rfl⟩; exact ⟨rfl, Rg.StM.nil (hA)⟩))
                    | 4, ho, hi, hdep =>
                      cases ho
                      have da0 : ac.eval (.tmp 48) = .bool false := hF.2.2.2 3 48 _ rfl (hdep ⟨3, .data⟩ (by simp) rfl)
                      exact Ord.ex_value x rfl rfl (Rg.mv da0 rfl) rfl (hW.keep (by decide))
                    | 5, ho, hi, hdep =>
                      cases ho
                      have dg : ac.eval (.tmp 49) = .bool false := hF.2.2.2 4 49 _ rfl (hdep ⟨4, .guard⟩ (by simp) rfl)
                      have da0 : ac.eval (.tmp 0) = .pointer (some ⟨t, 0, none⟩) := hF.old 0 rfl
                      exact Ord.ex_value x rfl (Ord.wanted_of dg (by rw [f1]; decide) rfl rfl) (Rg.mv da0 rfl) rfl (hW.keep (by decide))
                    | 6, ho, hi, hdep =>
                      cases ho
                      have dg : ac.eval (.tmp 49) = .bool false := hF.2.2.2 4 49 _ rfl (hdep ⟨4, .guard⟩ (by simp) rfl)
                      have da0 : ac.eval (.tmp 4) = .pointer (some ⟨w.heap.size, 0, none⟩) := hF.old 4 rfl
                      exact Ord.ex_value x rfl (Ord.wanted_of dg (by rw [f1]; decide) rfl rfl) (Rg.fa da0 rfl (by simp [go_sem])) rfl (hW.keep (by decide))
                    | 7, ho, hi, hdep =>
                      cases ho
                      have dg : ac.eval (.tmp 49) = .bool false := hF.2.2.2 4 49 _ rfl (hdep ⟨4, .guard⟩ (by simp) rfl)
                      have da0 : ac.eval (.tmp 51) = .pointer (some ⟨w.heap.size, 2, none⟩) := hF.2.2.2 6 51 _ rfl (hdep ⟨6, .data⟩ (by simp) rfl)
                      exact Ord.ex_value x rfl (Ord.wanted_of dg (by rw [f1]; decide) rfl rfl) (Rg.load da0 rfl (HC2.out _ hW.only)) rfl (hW.keep (by decide))
                    | 8, ho, hi, hdep =>
                      cases ho
                      have dg : ac.eval (.tmp 49) = .bool false := hF.2.2.2 4 49 _ rfl (hdep ⟨4, .guard⟩ (by simp) rfl)
                      have da0 : ac.eval (.tmp 8) = v := hF.old 8 rfl
                      exact Ord.ex_value x rfl (Ord.wanted_of dg (by rw [f1]; decide) rfl rfl) (Rg.mv da0 rfl) rfl (hW.keep (by decide))
                    | 9, ho, hi, hdep =>
                      cases ho
                      have dg : ac.eval (.tmp 49) = .bool false := hF.2.2.2 4 49 _ rfl (hdep ⟨4, .guard⟩ (by simp) rfl)
                      have da0 : ac.eval (.tmp 53) = v := hF.2.2.2 8 53 _ rfl (hdep ⟨8, .data⟩ (by simp) rfl)
                      obtain ⟨kq, hlo, hhi, hA⟩ := hW.range 0 0 (.inl rfl) (.inl rfl)
                      have hA := hW.only
                      exact Rg.ex_call x rfl (Ord.wanted_of dg (by rw [f1]; decide) rfl rfl) (Rg.enter (args := #[v]) rfl rfl (by simp [da0]) EA.out) (Calls.mono (HFA.out _ hA) (by rintro e w2 ⟨rfl, hB⟩; exact ⟨rfl, Rg.StM.nil (hA.trans (hB.mono hA.size))⟩))
                    | 10, ho, hi, hdep =>
                      cases ho
                      have dg : ac.eval (.tmp 49) = .bool false := hF.2.2.2 4 49 _ rfl (hdep ⟨4, .guard⟩ (by simp) rfl)
                      have da0 : ac.eval (.tmp 52) = .int .u32 q.tsn := hF.2.2.2 7 52 _ rfl (hdep ⟨7, .data⟩ (by simp) rfl)
                      have da1 : ac.eval (.tmp 54) = .int .u32 fa := hF.2.2.2 9 54 _ rfl (hdep ⟨9, .data⟩ (by simp) rfl)
                      obtain ⟨kq, hlo, hhi, hA⟩ := hW.range 0 0 (.inl rfl) (.inl rfl)
                      have hA := hW.only
                      exact Rg.ex_call x rfl (Ord.wanted_of dg (by rw [f1]; decide) rfl rfl) (Rg.enter (args := #[.int .u32 q.tsn, .int .u32 fa]) rfl rfl (by simp [da0, da1]) ED.out) (Calls.mono (HAD.out _ hA) (by rintro e w2 ⟨rfl, rfl⟩; exact ⟨rfl, Rg.StM.nil (hA)⟩))
                    | 11, ho, hi, hdep =>
                      cases ho
                      have dg : ac.eval (.tmp 49) = .bool false := hF.2.2.2 4 49 _ rfl (hdep ⟨4, .guard⟩ (by simp) rfl)
                      have da0 : ac.eval (.tmp 50) = .pointer (some ⟨t, 0, none⟩) := hF.2.2.2 5 50 _ rfl (hdep ⟨5, .data⟩ (by simp) rfl)
                      have da1 : ac.eval (.tmp 55) = .int .u32 ta := hF.2.2.2 10 55 _ rfl (hdep ⟨10, .data⟩ (by simp) rfl)
                      obtain ⟨kq, hlo, hhi, hA⟩ := hW.range 0 0 (.inl rfl) (.inl rfl)
                      have hA := hW.only
                      exact Rg.ex_call x rfl (Ord.wanted_of dg (by rw [f1]; decide) rfl rfl) (Rg.enter (args := #[.pointer (some ⟨t, 0, none⟩), .int .u32 ta]) rfl rfl (by simp [da0, da1]) EU.out) (Calls.mono (HU2.out _ hA) (by rintro e w2 ⟨rfl, rfl⟩; exact ⟨rfl, Rg.StM.nil (hA)⟩))
                    | 12, ho, hi, hdep =>
                      cases ho
                      have da0 : ac.eval (.tmp 49) = .bool false := hF.2.2.2 4 49 _ rfl (hdep ⟨4, .data⟩ (by simp) rfl)
                      have da1 : ac.eval (.tmp 56) = .bool true := hF.2.2.2 11 56 _ rfl (hdep ⟨11, .data⟩ (by simp) rfl)
                      exact Ord.ex_value x rfl rfl (Rg.pick_f da0 da1 rfl) rfl (hW.keep (by decide))
                    | 13, ho, hi, hdep =>
                      cases ho
                      have da0 : ac.eval (.tmp 57) = .bool true := hF.2.2.2 12 57 _ rfl (hdep ⟨12, .data⟩ (by simp) rfl)
                      exact Ord.ex_value x rfl rfl (Rg.asg da0 rfl) rfl (hW.keep (by decide))
                  case refine_3 => exact Rg.StM.first (Below.refl _ _).drew
                  case refine_2 =>
                    intro xu W5 hW
                    have hA := hW.last
                    clear hW
                    simp only [Ord.puts, Ord.prs]
                    go_simp
                    have HE : Hid (repE S q now = 171) := by
                      show _ = _
                      rw [HE0.out, if_neg (show ¬ 2147483648 < (q.tsn - S.c) % 4294967296 by have := HLE.out; omega), ← HTA.out.1, if_pos HU3.out]
                    have HOE := hidden (HO4.out.later hA)
                    have e6 : True := trivial
                    obtain ⟨z0, z1, z2⟩ : _ ∧ _ ∧ _ := ⟨HOE.out.cell (List.mem_cons_self ..) 0 rfl, HOE.out.cell (List.mem_cons_self ..) 1 rfl, HOE.out.cell (List.mem_cons_self ..) 2 rfl⟩
                    have zf := HOE.out.frozen (b := w.heap.size + 1) (List.mem_cons_self ..)
                    clear HN4 HG4 HC2 HU1 HU2 HFA HAD hA
                    go_wp2
                    obtain ⟨y1, y2⟩ := set3 (v0 := .slice none 0 0) (v1 := .int .i64 0) (v2 := .int .i64 0) (HOE.out.has (List.mem_cons_self ..))
                    refine bodyPost_ret (res_ct rfl rfl y1) rfl (.inl ⟨by rw [HE.out]; decide, by rw [HE.out]; rfl, HOE.out.below.trans (y2.below HOE.out.below.size (fun k hk => by omega))⟩)
                case neg =>
                  rw [decide_eq_false hu2] at HU2
                  have HU3 : Hid (¬ (S.L.length : Int) < (q.tsn - S.c) % 4294967296 + fa) := fun h => (HPU.out.2 h).elim hu1 hu2
                  have HE : Hid (repE S q now = 0) := by
                    show _ = _
                    rw [HE0.out, if_neg (show ¬ 2147483648 < (q.tsn - S.c) % 4294967296 by have := HLE.out; omega), ← HTA.out.1, if_neg (show ¬ (S.L.length : Int) < (q.tsn - S.c) % 4294967296 + fa by have := HU3.out; omega)]
                  clear hu1 hu2
                  go_upto_region 10 with fail
                  rename_i hK
                  refine Ord.wp_region_ex0 (X := Unit) (by kernel_rfl) 85 (fun x => [(some 45, .pointer (some ⟨t, 0, none⟩)), (some 46, .pointer (some ⟨w.heap.size, 2, none⟩)), (some 47, .int .u32 q.tsn), (some 48, .bool false), (some 49, .bool false), (some 50, .pointer (some ⟨t, 0, none⟩)), (some 51, .pointer (some ⟨w.heap.size, 2, none⟩)), (some 52, .int .u32 q.tsn), (some 53, v), (some 54, .int .u32 fa), (some 55, .int .u32 ta), (some 56, .bool false), (some 57, .bool false), (some 44, .bool false)]) [some 45, some 46, some 47, some 48, some 49, some 50, some 51, some 52, some 53, some 54, some 55, some 56, some 57, some 44] rfl (fun listed hsz hr => Ord.all_listedC (rank := [0, 1, 2, 3, 4, 5, 6, 7, 8, 9, 10, 11, 12, 13]) (by kernel_rfl) hsz hr) (by rfl) (fun _ => rfl) (by kernel_rfl) (Rg.StM [] (fun sk sx w' => Below W4.heap.size W4 w')) (fun _ _ _ _ hL h => h.ext (n := 14) (by decide) hL) ?_ ?_ () ?_
                  case refine_1 =>
                    intro x Lq iq oq ac w' ho hi hcl hdep hF hW
                    have f1 : ac.tmps.size = 85 := hF.1
                    match iq, ho, hi, hdep with
                    | 0, ho, hi, hdep =>
                      cases ho
                      have da0 : ac.eval (.tmp 0) = .pointer (some ⟨t, 0, none⟩) := hF.old 0 rfl
                      exact Ord.ex_value x rfl rfl (Rg.mv da0 rfl) rfl (hW.keep (by decide))
                    | 1, ho, hi, hdep =>
                      cases ho
                      have da0 : ac.eval (.tmp 4) = .pointer (some ⟨w.heap.size, 0, none⟩) := hF.old 4 rfl
                      exact Ord.ex_value x rfl rfl (Rg.fa da0 rfl (by simp [go_sem])) rfl (hW.keep (by decide))
                    | 2, ho, hi, hdep =>
                      cases ho
                      have da0 : ac.eval (.tmp 46) = .pointer (some ⟨w.heap.size, 2, none⟩) := hF.2.2.2 1 46 _ rfl (hdep ⟨1, .data⟩ (by simp) rfl)
                      exact Ord.ex_value x rfl rfl (Rg.load da0 rfl (HC2.out _ hW.only)) rfl (hW.keep (by decide))
                    | 3, ho, hi, hdep =>
                      cases ho
                      have da0 : ac.eval (.tmp 45) = .pointer (some ⟨t, 0, none⟩) := hF.2.2.2 0 45 _ rfl (hdep ⟨0, .data⟩ (by simp) rfl)
                      have da1 : ac.eval (.tmp 47) = .int .u32 q.tsn := hF.2.2.2 2 47 _ rfl (hdep ⟨2, .data⟩ (by simp) rfl)
                      obtain ⟨kq, hlo, hhi, hA⟩ := hW.range 0 0 (.inl rfl) (.inl rfl)
                      have hA := hW.only
                      exact Rg.ex_call x rfl rfl (Rg.enter (args := #[.pointer (some ⟨t, 0, none⟩), .int .u32 q.tsn]) rfl rfl (by simp [da0, da1]) EU.out) (Calls.mono (HU1.out _ hA) (by rintro e w2 ⟨rfl, rfl⟩; exact ⟨rfl, Rg.StM.nil (hA)⟩))
                    | 4, ho, hi, hdep =>
                      cases ho
                      have da0 : ac.eval (.tmp 48) = .bool false := hF.2.2.2 3 48 _ rfl (hdep ⟨3, .data⟩ (by simp) rfl)
                      exact Ord.ex_value x rfl rfl (Rg.mv da0 rfl) rfl (hW.keep (by decide))
                    | 5, ho, hi, hdep =>
                      cases ho
                      have dg : ac.eval (.tmp 49) = .bool false := hF.2.2.2 4 49 _ rfl (hdep ⟨4, .guard⟩ (by simp) rfl)
                      have da0 : ac.eval (.tmp 0) = .pointer (some ⟨t, 0, none⟩) := hF.old 0 rfl
                      exact Ord.ex_value x rfl (Ord.wanted_of dg (by rw [f1]; decide) rfl rfl) (Rg.mv da0 rfl) rfl (hW.keep (by decide))
                    | 6, ho, hi, hdep =>
                      cases ho
                      have dg : ac.eval (.tmp 49) = .bool false := hF.2.2.2 4 49 _ rfl (hdep ⟨4, .guard⟩ (by simp) rfl)
                      have da0 : ac.eval (.tmp 4) = .pointer (some ⟨w.heap.size, 0, none⟩) := hF.old 4 rfl
                      exact Ord.ex_value x rfl (Ord.wanted_of dg (by rw [f1]; decide) rfl rfl) (Rg.fa da0 rfl (by simp [go_sem])) rfl (hW.keep (by decide))
                    | 7, ho, hi, hdep =>
                      cases ho
                      have dg : ac.eval (.tmp 49) = .bool false := hF.2.2.2 4 49 _ rfl (hdep ⟨4, .guard⟩ (by simp) rfl)
                      have da0 : ac.eval (.tmp 51) = .pointer (some ⟨w.heap.size, 2, none⟩) := hF.2.2.2 6 51 _ rfl (hdep ⟨6, .data⟩ (by simp) rfl)
                      exact Ord.ex_value x rfl (Ord.wanted_of dg (by rw [f1]; decide) rfl rfl) (Rg.load da0 rfl (HC2.out _ hW.only)) rfl (hW.keep (by decide))
                    | 8, ho, hi, hdep =>
                      cases ho
                      have dg : ac.eval (.tmp 49) = .bool false := hF.2.2.2 4 49 _ rfl (hdep ⟨4, .guard⟩ (by simp) rfl)
                      have da0 : ac.eval (.tmp 8) = v := hF.old 8 rfl
                      exact Ord.ex_value x rfl (Ord.wanted_of dg (by rw [f1]; decide) rfl rfl) (Rg.mv da0 rfl) rfl (hW.keep (by decide))
                    | 9, ho, hi, hdep =>
                      cases ho
                      have dg : ac.eval (.tmp 49) = .bool false := hF.2.2.2 4 49 _ rfl (hdep ⟨4, .guard⟩ (by simp) rfl)
                      have da0 : ac.eval (.tmp 53) = v := hF.2.2.2 8 53 _ rfl (hdep ⟨8, .data⟩ (by simp) rfl)
                      obtain ⟨kq, hlo, hhi, hA⟩ := hW.range 0 0 (.inl rfl) (.inl rfl)
                      have hA := hW.only
                      exact Rg.ex_call x rfl (Ord.wanted_of dg (by rw [f1]; decide) rfl rfl) (Rg.enter (args := #[v]) rfl rfl (by simp [da0]) EA.out) (Calls.mono (HFA.out _ hA) (by rintro e w2 ⟨rfl, hB⟩; exact ⟨rfl, Rg.StM.nil (hA.trans (hB.mono hA.size))⟩))
                    | 10, ho, hi, hdep =>
                      cases ho
                      have dg : ac.eval (.tmp 49) = .bool false := hF.2.2.2 4 49 _ rfl (hdep ⟨4, .guard⟩ (by simp) rfl)
                      have da0 : ac.eval (.tmp 52) = .int .u32 q.tsn := hF.2.2.2 7 52 _ rfl (hdep ⟨7, .data⟩ (by simp) rfl)
                      have da1 : ac.eval (.tmp 54) = .int .u32 fa := hF.2.2.2 9 54 _ rfl (hdep ⟨9, .data⟩ (by simp) rfl)
                      obtain ⟨kq, hlo, hhi, hA⟩ := hW.range 0 0 (.inl rfl) (.inl rfl)
                      have hA := hW.only
                      exact Rg.ex_call x rfl (Ord.wanted_of dg (by rw [f1]; decide) rfl rfl) (Rg.enter (args := #[.int .u32 q.tsn, .int .u32 fa]) rfl rfl (by simp [da0, da1]) ED.out) (Calls.mono (HAD.out _ hA) (by rintro e w2 ⟨rfl, rfl⟩; exact ⟨rfl, Rg.StM.nil (hA)⟩))
                    | 11, ho, hi, hdep =>
                      cases ho
                      have dg : ac.eval (.tmp 49) = .bool false := hF.2.2.2 4 49 _ rfl (hdep ⟨4, .guard⟩ (by simp) rfl)
                      have da0 : ac.eval (.tmp 50) = .pointer (some ⟨t, 0, none⟩) := hF.2.2.2 5 50 _ rfl (hdep ⟨5, .data⟩ (by simp) rfl)
                      have da1 : ac.eval (.tmp 55) = .int .u32 ta := hF.2.2.2 10 55 _ rfl (hdep ⟨10, .data⟩ (by simp) rfl)
                      obtain ⟨kq, hlo, hhi, hA⟩ := hW.range 0 0 (.inl rfl) (.inl rfl)
                      have hA := hW.only
                      exact Rg.ex_call x rfl (Ord.wanted_of dg (by rw [f1]; decide) rfl rfl) (Rg.enter (args := #[.pointer (some ⟨t, 0, none⟩), .int .u32 ta]) rfl rfl (by simp [da0, da1]) EU.out) (Calls.mono (HU2.out _ hA) (by rintro e w2 ⟨rfl, rfl⟩; exact ⟨rfl, Rg.StM.nil (hA)⟩))
                    | 12, ho, hi, hdep =>
                      cases ho
                      have da0 : ac.eval (.tmp 49) = .bool false := hF.2.2.2 4 49 _ rfl (hdep ⟨4, .data⟩ (by simp) rfl)
                      have da1 : ac.eval (.tmp 56) = .bool false := hF.2.2.2 11 56 _ rfl (hdep ⟨11, .data⟩ (by simp) rfl)
                      exact Ord.ex_value x rfl rfl (Rg.pick_f da0 da1 rfl) rfl (hW.keep (by decide))
                    | 13, ho, hi, hdep =>
                      cases ho
                      have da0 : ac.eval (.tmp 57) = .bool false := hF.2.2.2 12 57 _ rfl (hdep ⟨12, .data⟩ (by simp) rfl)
                      exact Ord.ex_value x rfl rfl (Rg.asg da0 rfl) rfl (hW.keep (by decide))
                  case refine_3 => exact Rg.StM.first (Below.refl _ _).drew
                  case refine_2 =>
                    intro xu W5 hW
                    have hA := hW.last
                    clear hW
                    simp only [Ord.puts, Ord.prs]
                    go_simp
                    refine hK _ _ ?_
                    clear hK
                    have HO5 := hidden (HO4.out.later hA)
                    have HN5 := hidden (HN4.out.later hA)
                    have HG5 := hidden (HG4.out.later hA)
                    have HR5 := hidden (HR4.out.later hA)
                    clear HO4 HN4 HG4 HR4 HC2 HU1 HU2 HFA HAD hA
                    obtain ⟨up, hup⟩ : ∃ up, up = upS S q := ⟨_, rfl⟩
                    have HUPE := hidden (repE_up HE.out)
                    have HUP := hidden hup
                    have HCM : Hid (∀ w', Below W5.heap.size W5 w' → Calls Try.prog 19 #[.pointer (some ⟨t, 0, none⟩)] w' fun e w2 => e = .returned (.int .u32 S.c) ∧ ∃ m, w2 = w'.drewN m) := fun w' hB => by
                      have := cum (HN5.out.later hB) (by have := HGG.out.len; have := HGG.out.k; omega)
                      have e1 : (nextS S - (S.L.length : Int) - 1) % 4294967296 = S.c := by have := HGG.out.c0; have := HGG.out.c1; unfold nextS; omega
                      rw [e1] at this
                      exact this
                    have HC2 : Hid (∀ w', Below W5.heap.size W5 w' → (Instr.loadAt 22 (.pointer (some ⟨w.heap.size, 2, none⟩))).run Try.prog w' = .ok (.int .u32 q.tsn) w') := fun w' hB => by
                      have := (HO5.out.later hB).cell (b := w.heap.size) (List.mem_cons_of_mem _ (List.mem_cons_self ..)) 2 (v := .int .u32 c.tsn) rfl
                      rw [HTS.out] at this
                      simp [go_sem, this]
                    have HDF : Hid (∀ w', Below W5.heap.size W5 w' → Calls Try.prog 55 #[.int .u32 S.c, .int .u32 q.tsn] w' fun e w2 => e = .returned (.int .i64 (up : Int)) ∧ w' = w2) := fun w' _ => by
                      have := Ser.diff S.c q.tsn ⟨HGG.out.c0, HGG.out.c1⟩ HQT.out w'
                      rw [diff_up (now := now) ⟨HGG.out.c0, HGG.out.c1⟩ HQT.out HE.out (by have := HGG.out.len; have := HGG.out.k; omega), ← hup] at this
                      exact this
                    have EI : Hid (∀ (args : Array Value) (w : World), (callFunc 55 args).run Try.prog w = .ok (.enter 55 args) w) := enters_of Try.func55 (by kernel_rfl) rfl
                    clear hup HU3 HPU HTA HFR HE0
                    go_upto_region 12 with fail
                    refine Ord.wp_region_ex0 (X := Unit) (by kernel_rfl) 85 (fun x => [(some 59, .pointer (some ⟨t, 0, none⟩)), (some 60, .int .u32 S.c), (some 61, .pointer (some ⟨w.heap.size, 2, none⟩)), (some 62, .int .u32 q.tsn), (some 63, .int .i64 (up : Int)), (some 9, .int .i64 (up : Int))]) [some 59, some 60, some 61, some 62, some 63, some 9] rfl (fun listed hsz hr => Ord.all_listedC (rank := [0, 1, 2, 3, 4, 5]) (by kernel_rfl) hsz hr) (by rfl) (fun _ => rfl) (by kernel_rfl) (Rg.StM [] (fun sk sx w' => Below W5.heap.size W5 w')) (fun _ _ _ _ hL h => h.ext (n := 6) (by decide) hL) ?_ ?_ () ?_
                    case refine_1 =>
                      intro x Lq iq oq ac w' ho hi hcl hdep hF hW
                      have f1 : ac.tmps.size = 85 := hF.1
                      match iq, ho, hi, hdep with
                      | 0, ho, hi, hdep =>
                        cases ho
                        have da0 : ac.eval (.tmp 0) = .pointer (some ⟨t, 0, none⟩) := hF.old 0 rfl
                        exact Ord.ex_value x rfl rfl (Rg.mv da0 rfl) rfl (hW.keep (by decide))
                      | 1, ho, hi, hdep =>
                        cases ho
                        have da0 : ac.eval (.tmp 59) = .pointer (some ⟨t, 0, none⟩) := hF.2.2.2 0 59 _ rfl (hdep ⟨0, .data⟩ (by simp) rfl)
                        obtain ⟨kq, hlo, hhi, hA⟩ := hW.range 0 0 (.inl rfl) (.inl rfl)
                        have hA := hW.only
                        exact Rg.ex_call x rfl rfl (Rg.enter (args := #[.pointer (some ⟨t, 0, none⟩)]) rfl rfl (by simp [da0]) EM.out) (Calls.mono (HCM.out _ hA) (by rintro e w2 ⟨rfl, m, rfl⟩; exact ⟨rfl, Rg.StM.nil (Below.drewN hA m)⟩))
                      | 2, ho, hi, hdep =>
                        cases ho
                        have da0 : ac.eval (.tmp 4) = .pointer (some ⟨w.heap.size, 0, none⟩) := hF.old 4 rfl
                        exact Ord.ex_value x rfl rfl (Rg.fa da0 rfl (by simp [go_sem])) rfl (hW.keep (by decide))
                      | 3, ho, hi, hdep =>
                        cases ho
                        have da0 : ac.eval (.tmp 61) = .pointer (some ⟨w.heap.size, 2, none⟩) := hF.2.2.2 2 61 _ rfl (hdep ⟨2, .data⟩ (by simp) rfl)
                        exact Ord.ex_value x rfl rfl (Rg.load da0 rfl (HC2.out _ hW.only)) rfl (hW.keep (by decide))
                      | 4, ho, hi, hdep =>
                        cases ho
                        have da0 : ac.eval (.tmp 60) = .int .u32 S.c := hF.2.2.2 1 60 _ rfl (hdep ⟨1, .data⟩ (by simp) rfl)
                        have da1 : ac.eval (.tmp 62) = .int .u32 q.tsn := hF.2.2.2 3 62 _ rfl (hdep ⟨3, .data⟩ (by simp) rfl)
                        obtain ⟨kq, hlo, hhi, hA⟩ := hW.range 0 0 (.inl rfl) (.inl rfl)
                        have hA := hW.only
                        exact Rg.ex_call x rfl rfl (Rg.enter (args := #[.int .u32 S.c, .int .u32 q.tsn]) rfl rfl (by simp [da0, da1]) EI.out) (Calls.mono (HDF.out _ hA) (by rintro e w2 ⟨rfl, rfl⟩; exact ⟨rfl, Rg.StM.nil (hA)⟩))
                      | 5, ho, hi, hdep =>
                        cases ho
                        have da0 : ac.eval (.tmp 63) = .int .i64 (up : Int) := hF.2.2.2 4 63 _ rfl (hdep ⟨4, .data⟩ (by simp) rfl)
                        exact Ord.ex_value x rfl rfl (Rg.asg da0 rfl) rfl (hW.keep (by decide))
                    case refine_3 => exact Rg.StM.first (Below.refl _ _).drew
                    case refine_2 =>
                      intro xu W6 hW
                      have hA := hW.last
                      clear hW
                      simp only [Ord.puts, Ord.prs]
                      go_simp
                      have HO6 := hidden (HO5.out.later hA)
                      have HN6 := hidden (HN5.out.later hA)
                      have HG6 := hidden (HG5.out.later hA)
                      have HR6 := hidden (HR5.out.later hA)
                      clear HO5 HN5 HG5 HR5 HC2 HCM HDF hA
                      obtain ⟨N, hN⟩ : ∃ N, N = S.L.length := ⟨_, rfl⟩
                      obtain ⟨n, hn⟩ : ∃ n, n = S.n := ⟨_, rfl⟩
                      obtain ⟨tl, htl⟩ : ∃ tl, tl = tlS S q := ⟨_, rfl⟩
                      obtain ⟨gd, hgd⟩ : ∃ gd, gd = gdS S q := ⟨_, rfl⟩
                      obtain ⟨L, hL⟩ : ∃ L, L = S.L := ⟨_, rfl⟩
                      have HLD : Hid (∀ w', Below W6.heap.size W6 w' → (Instr.loadAt 48 (.pointer (some ⟨w.heap.size, 0, none⟩))).run Try.prog w' = .ok (kv c) w') := fun w' hB => load15 ((HO6.out.later hB).has (List.mem_cons_of_mem _ (List.mem_cons_self ..)))
                      have hlen : S.L.length ≤ 1000 := by have := HGG.out.len; have := HGG.out.k; omega
                      have HT1 : Hid (∀ w', Below W6.heap.size W6 w' → Calls Try.prog 57 #[.pointer (some ⟨t, 0, none⟩), .int .i64 (up : Int), v] w' fun e w2 => ∃ b, e = .returned (.slice (some ⟨b, 0, none⟩) N N) ∧ w'.heap.size ≤ b ∧ Bw w2 b N tl ∧ Below w'.heap.size w' w2) := fun w' hB => by
                        have := tells (HN6.out.later hB) (by omega) up (by rw [HUP.out]; exact HUPE.out.1) (HG6.out.later hB) HORD.out (by rw [HUP.out]; exact HUPE.out.2.2)
                        refine this.mono ?_
                        rintro e w2 ⟨b, rfl, h1, h2, h3⟩
                        refine ⟨b, by rw [hN], h1, by rw [hN]; exact h2.congr (fun i _ => by rw [HUP.out, htl]; exact tlS_eq i), h3⟩
                      have HT2 : Hid (∀ w', Below W6.heap.size W6 w' → Calls Try.prog 57 #[.pointer (some ⟨t, 0, none⟩), .int .i64 (up : Int), c.fv] w' fun e w2 => ∃ b, e = .returned (.slice (some ⟨b, 0, none⟩) N N) ∧ w'.heap.size ≤ b ∧ Bw w2 b N gd ∧ Below w'.heap.size w' w2) := fun w' hB => by
                        have h1 := HORD.out
                        rw [ord_append] at h1
                        have h2 := HUPE.out.2.2
                        rw [far_append] at h2
                        have := tells (HN6.out.later hB) (by omega) up (by rw [HUP.out]; exact HUPE.out.1) (HR6.out.later hB).f (Bool.and_eq_true _ _ ▸ h1 : _ ∧ _).2 (by rw [HUP.out]; omega)
                        refine this.mono ?_
                        rintro e w2 ⟨b, rfl, h1, h2, h3⟩
                        refine ⟨b, by rw [hN], h1, by rw [hN]; exact h2.congr (fun i _ => by rw [HUP.out, hgd]; rfl), h3⟩
                      have HRE : Hid (∀ w' tb fb, Below W6.heap.size W6 w' → Bw w' tb N tl → Calls Try.prog 56 #[.pointer (some ⟨t, 0, none⟩), .slice (some ⟨tb, 0, none⟩) N N, .slice (some ⟨fb, 0, none⟩) N N] w' fun e w2 => ∃ R ap nb, e = .returned (.pointer (some ⟨R, 0, none⟩)) ∧ w'.heap.size ≤ R ∧ w'.heap.size ≤ ap ∧ w'.heap.size ≤ nb ∧ Rd w2 R t ap n N tb fb nb 0 0 ∧ Aw w2 ap n (fun _ => ⟨0, false, 0, 0⟩) ∧ Bw w2 nb N (nwl tl L) ∧ Below w'.heap.size w' w2) := fun w' tb fb hB hb => by
                        rw [hN] at hb ⊢
                        rw [hn, hL]
                        exact read (HN6.out.later hB) (by omega) HGG.out.n8 hb
                      have ET : Hid (∀ (args : Array Value) (w : World), (callFunc 57 args).run Try.prog w = .ok (.enter 57 args) w) := enters_of Try.func57 (by kernel_rfl) rfl
                      have ER : Hid (∀ (args : Array Value) (w : World), (callFunc 56 args).run Try.prog w = .ok (.enter 56 args) w) := enters_of Try.func56 (by kernel_rfl) rfl
                      have HNL := hidden (And.intro hN (And.intro hn (And.intro htl (And.intro hgd hL))))
                      clear hN hn htl hgd hL hlen
                      go_upto_region 13 with fail
                      refine Ord.wp_region_ex0 (X := Nat × Nat × Nat) (by kernel_rfl) 85 (fun x => [(some 64, .pointer (some ⟨t, 0, none⟩)), (some 65, .pointer (some ⟨t, 0, none⟩)), (some 66, .int .i64 (up : Int)), (some 67, v), (some 68, .slice (some ⟨x.1, 0, none⟩) N N), (some 69, .pointer (some ⟨t, 0, none⟩)), (some 70, .int .i64 (up : Int)), (some 71, kv c), (some 72, c.fv), (some 73, .slice (some ⟨x.2.1, 0, none⟩) N N), (some 74, .pointer (some ⟨x.2.2, 0, none⟩)), (some 10, .pointer (some ⟨x.2.2, 0, none⟩))]) [some 64, some 65, some 66, some 67, some 68, some 69, some 70, some 71, some 72, some 73, some 74, some 10] rfl (fun listed hsz hr => Ord.all_listedC (rank := [0, 1, 2, 3, 4, 5, 6, 7, 8, 9, 10, 11]) (by kernel_rfl) hsz hr) (by rfl) (fun _ => rfl) (by kernel_rfl) (Rg.StM [4, 8, 9, 10] (fun sk sx w' => TlA W6 t n N tl gd L sk sx w')) (fun _ _ _ _ hL h => h.ext (n := 12) (by decide) hL) ?_ ?_ (0, 0, 0) ?_
                      case refine_1 =>
                        intro x Lq iq oq ac w' ho hi hcl hdep hF hW
                        have f1 : ac.tmps.size = 85 := hF.1
                        match iq, ho, hi, hdep with
                        | 0, ho, hi, hdep =>
                          cases ho
                          have da0 : ac.eval (.tmp 0) = .pointer (some ⟨t, 0, none⟩) := hF.old 0 rfl
                          exact Ord.ex_value x rfl rfl (Rg.mv da0 rfl) rfl (hW.keep (by decide))
                        | 1, ho, hi, hdep =>
                          cases ho
                          have da0 : ac.eval (.tmp 0) = .pointer (some ⟨t, 0, none⟩) := hF.old 0 rfl
                          exact Ord.ex_value x rfl rfl (Rg.mv da0 rfl) rfl (hW.keep (by decide))
                        | 2, ho, hi, hdep =>
                          cases ho
                          have da0 : ac.eval (.tmp 9) = .int .i64 (up : Int) := hF.old 9 rfl
                          exact Ord.ex_value x rfl rfl (Rg.mv da0 rfl) rfl (hW.keep (by decide))
                        | 3, ho, hi, hdep =>
                          cases ho
                          have da0 : ac.eval (.tmp 8) = v := hF.old 8 rfl
                          exact Ord.ex_value x rfl rfl (Rg.mv da0 rfl) rfl (hW.keep (by decide))
                        | 4, ho, hi, hdep =>
                          cases ho
                          have da0 : ac.eval (.tmp 65) = .pointer (some ⟨t, 0, none⟩) := hF.2.2.2 1 65 _ rfl (hdep ⟨1, .data⟩ (by simp) rfl)
                          have da1 : ac.eval (.tmp 66) = .int .i64 (up : Int) := hF.2.2.2 2 66 _ rfl (hdep ⟨2, .data⟩ (by simp) rfl)
                          have da2 : ac.eval (.tmp 67) = v := hF.2.2.2 3 67 _ rfl (hdep ⟨3, .data⟩ (by simp) rfl)
                          have hA := hW.at (k := 0) rfl hi (.inl rfl)
                          refine Rg.ex_calll x rfl rfl (Rg.enter (args := #[.pointer (some ⟨t, 0, none⟩), .int .i64 (up : Int), v]) rfl rfl (by simp [da0, da1, da2]) ET.out) (Calls.mono (HT1.out _ hA.b) ?_)
                          rintro e w2 ⟨b, rfl, hl, hb, hB⟩
                          exact ⟨(b, x.2), rfl, (fun j hj => match j, hj with | 0, _ => rfl | 1, _ => rfl | 2, _ => rfl | 3, _ => rfl | 4, hj => absurd hj (by rw [hi]; decide) | 5, _ => rfl | 6, _ => rfl | 7, _ => rfl | 8, _ => rfl | 9, _ => rfl | 10, _ => rfl | 11, _ => rfl | _ + 12, _ => rfl), hW.next (k := 0) rfl (by decide) hi (.inl rfl) (hA.one hl hb hB)⟩
                        | 5, ho, hi, hdep =>
                          cases ho
                          have da0 : ac.eval (.tmp 0) = .pointer (some ⟨t, 0, none⟩) := hF.old 0 rfl
                          exact Ord.ex_value x rfl rfl (Rg.mv da0 rfl) rfl (hW.keep (by decide))
                        | 6, ho, hi, hdep =>
                          cases ho
                          have da0 : ac.eval (.tmp 9) = .int .i64 (up : Int) := hF.old 9 rfl
                          exact Ord.ex_value x rfl rfl (Rg.mv da0 rfl) rfl (hW.keep (by decide))
                        | 7, ho, hi, hdep =>
                          cases ho
                          have da0 : ac.eval (.tmp 4) = .pointer (some ⟨w.heap.size, 0, none⟩) := hF.old 4 rfl
                          obtain ⟨kq, hlo, hhi, hA⟩ := hW.range 0 1 (.inl rfl) (.inr ⟨8, rfl, (Rg.no_of (fun h => hcl 8 _ rfl (h) ⟨7, .data⟩ (by simp) rfl) hi)⟩)
                          exact Ord.ex_value x rfl rfl (Rg.load da0 rfl (HLD.out _ hA.b)) rfl (hW.keep (by decide))
                        | 8, ho, hi, hdep =>
                          cases ho
                          have da0 : ac.eval (.tmp 71) = kv c := hF.2.2.2 7 71 _ rfl (hdep ⟨7, .data⟩ (by simp) rfl)
                          have hA := hW.at (k := 1) rfl hi (.inr ⟨4, rfl, (hdep ⟨4, .chain⟩ (by simp) rfl)⟩)
                          exact Rg.ex_call x rfl rfl (Rg.enter (args := #[kv c]) rfl rfl (by simp [da0]) EF.out) (Calls.mono (firm c _) (by rintro e w2 ⟨rfl, rfl⟩; exact ⟨rfl, hW.next (k := 1) rfl (by decide) hi (.inr ⟨4, rfl, (hdep ⟨4, .chain⟩ (by simp) rfl)⟩) (hA.two ((Below.refl _ _).alloc (Nat.le_refl _) _))⟩))
                        | 9, ho, hi, hdep =>
                          cases ho
                          have da0 : ac.eval (.tmp 69) = .pointer (some ⟨t, 0, none⟩) := hF.2.2.2 5 69 _ rfl (hdep ⟨5, .data⟩ (by simp) rfl)
                          have da1 : ac.eval (.tmp 70) = .int .i64 (up : Int) := hF.2.2.2 6 70 _ rfl (hdep ⟨6, .data⟩ (by simp) rfl)
                          have da2 : ac.eval (.tmp 72) = c.fv := hF.2.2.2 8 72 _ rfl (hdep ⟨8, .data⟩ (by simp) rfl)
                          have hA := hW.at (k := 2) rfl hi (.inr ⟨8, rfl, (hdep ⟨8, .data⟩ (by simp) rfl)⟩)
                          refine Rg.ex_calll x rfl rfl (Rg.enter (args := #[.pointer (some ⟨t, 0, none⟩), .int .i64 (up : Int), c.fv]) rfl rfl (by simp [da0, da1, da2]) ET.out) (Calls.mono (HT2.out _ hA.b) ?_)
                          rintro e w2 ⟨b, rfl, hl, hb, hB⟩
                          exact ⟨(x.1, b, x.2.2), rfl, (fun j hj => match j, hj with | 0, _ => rfl | 1, _ => rfl | 2, _ => rfl | 3, _ => rfl | 4, _ => rfl | 5, _ => rfl | 6, _ => rfl | 7, _ => rfl | 8, _ => rfl | 9, hj => absurd hj (by rw [hi]; decide) | 10, _ => rfl | 11, _ => rfl | _ + 12, _ => rfl), hW.next (k := 2) rfl (by decide) hi (.inr ⟨8, rfl, (hdep ⟨8, .data⟩ (by simp) rfl)⟩) (hA.three hl hb hB)⟩
                        | 10, ho, hi, hdep =>
                          cases ho
                          have da0 : ac.eval (.tmp 64) = .pointer (some ⟨t, 0, none⟩) := hF.2.2.2 0 64 _ rfl (hdep ⟨0, .data⟩ (by simp) rfl)
                          have da1 : ac.eval (.tmp 68) = .slice (some ⟨x.1, 0, none⟩) N N := hF.2.2.2 4 68 _ rfl (hdep ⟨4, .data⟩ (by simp) rfl)
                          have da2 : ac.eval (.tmp 73) = .slice (some ⟨x.2.1, 0, none⟩) N N := hF.2.2.2 9 73 _ rfl (hdep ⟨9, .data⟩ (by simp) rfl)
                          have hA := hW.at (k := 3) rfl hi (.inr ⟨9, rfl, (hdep ⟨9, .data⟩ (by simp) rfl)⟩)
                          refine Rg.ex_calll x rfl rfl (Rg.enter (args := #[.pointer (some ⟨t, 0, none⟩), .slice (some ⟨x.1, 0, none⟩) N N, .slice (some ⟨x.2.1, 0, none⟩) N N]) rfl rfl (by simp [da0, da1, da2]) ER.out) (Calls.mono (HRE.out _ _ _ hA.b (hA.ft (by decide)).2) ?_)
                          rintro e w2 ⟨R, ap, nb, rfl, k1, k2, k3, k4, k5, k6, hB⟩
                          exact ⟨(x.1, x.2.1, R), rfl, (fun j hj => match j, hj with | 0, _ => rfl | 1, _ => rfl | 2, _ => rfl | 3, _ => rfl | 4, _ => rfl | 5, _ => rfl | 6, _ => rfl | 7, _ => rfl | 8, _ => rfl | 9, _ => rfl | 10, hj => absurd hj (by rw [hi]; decide) | 11, hj => absurd hj (by rw [(Rg.no_of (fun h => hcl 11 _ rfl (h) ⟨10, .data⟩ (by simp) rfl) hi)]; decide) | _ + 12, _ => rfl), hW.next (k := 3) rfl (by decide) hi (.inr ⟨9, rfl, (hdep ⟨9, .data⟩ (by simp) rfl)⟩) (hA.four k1 k2 k4 k5 k6 hB)⟩
                        | 11, ho, hi, hdep =>
                          cases ho
                          have da0 : ac.eval (.tmp 74) = .pointer (some ⟨x.2.2, 0, none⟩) := hF.2.2.2 10 74 _ rfl (hdep ⟨10, .data⟩ (by simp) rfl)
                          exact Ord.ex_value x rfl rfl (Rg.asg da0 rfl) rfl (hW.keep (by decide))
                      case refine_3 => exact Rg.StM.first (TlA.first _ _)
                      case refine_2 =>
                        intro x W7 hW
                        have hA := hW.last
                        clear hW
                        simp only [Ord.puts, Ord.prs]
                        go_simp
                        obtain ⟨tb, fb, R⟩ := x
                        obtain ⟨t1, t2⟩ := hA.ft (by decide)
                        obtain ⟨g1, g2⟩ := hA.fg (by decide)
                        obtain ⟨ap, nb, f1, f2, f3, f4, f5⟩ := hA.fr (by decide)
                        simp only at t1 t2 g1 g2 f1 f2 f3 f4 f5
                        have hN7 := HN6.out.later hA.b
                        have HO7 := hidden (HO6.out.later hA.b)
                        obtain ⟨rfl, rfl, rfl, rfl, rfl⟩ := HNL.out
                        have hlk := HGG.out.lk
                        have HC7 : Hid (Cx D W7 t f rv (nextS S) S.n S.L R ap tb fb nb 0 0 (fun _ => ⟨0, false, 0, 0⟩) (tlS S q) (gdS S q) (nwl (tlS S q) S.L)) := ⟨⟨_, hN7⟩, f3, f4, t2, g2, f5⟩
                        have TK := hidden (Ob.take (K := K) HC7.out hlk HGG.out.ch HGG.out.k HGG.out.n1 HGG.out.n8 HNOW.out)
                        have HRA : Hid (w.heap.size + 2 ≤ R ∧ w.heap.size + 2 ≤ ap) := by
                          have := HO6.out.lt (List.mem_cons_self ..)
                          show _ ∧ _
                          omega
                        clear t1 t2 g1 g2 f1 f2 f3 f4 f5 hN7 hlk hA HT1 HT2 HRE HLD HO6 HN6 HG6 HR6
                        go_wp2_with fail
                        refine Calls.mono TK.out ?_
                        rintro e W8 ⟨rfl, hC8, hm8⟩
                        obtain ⟨P8, hN8⟩ := hC8.no
                        have hlen : S.L.length ≤ 1000 := by have := HGG.out.len; have := HGG.out.k; omega
                        have DR := hidden (drop hN8 (by rw [L5_len]; omega) up (by rw [L5_len, HUP.out]; exact HUPE.out.1))
                        have HC8 := hidden hC8
                        have HM8 := hidden hm8
                        clear hC8 hm8 hN8 TK hlen
                        go_wp2_with fail
                        refine Calls.mono DR.out ?_
                        rintro e W9 ⟨rfl, ⟨rv', ⟨P9, hN9⟩, ho9⟩, hm9⟩
                        have hR9 : ¬ FC t f rv R := fun e => by have := HFC.out R e; have := HRA.out; omega
                        have hA9 : ¬ FC t f rv ap := fun e => by have := HFC.out ap e; have := HRA.out; omega
                        have HRR := hidden (hm9.has HC8.out.rh hR9)
                        have HAA := hidden (HC8.out.aw.stay hm9 hA9)
                        have hz8 := HM8.out.has (HO7.out.has (b := w.heap.size + 1) (List.mem_cons_self ..)) (fun e => by
                          have h1 := HRA.out
                          rcases e with e | e | e
                          · have := HFC.out _ e; omega
                          · omega
                          · omega)
                        have hz9 := hm9.has hz8 (fun e => by have := HFC.out _ e; omega)
                        have HZ9 := hidden hz9
                        have z0 := hz9.cell 0 rfl
                        have z1 := hz9.cell 1 rfl
                        have z2 := hz9.cell 2 rfl
                        have zf := hz9.frozen
                        have e0 := HRR.out.cell 0 rfl
                        have e1 := HRR.out.cell 1 rfl
                        have e2 := HRR.out.cell 2 rfl
                        have HF4 : Hid (∀ x ∈ (L5 (tlS S q) (gdS S q) S.L).take up, x.st = 4) := L5_first up HGG.out.ch (fun i hi => gdS_first i (by rw [← HUP.out]; exact hi))
                        have G : Hid (No D W9 t f rv' P9 (nextS (repS S q)) S.n (repS S q).L (fun k => fl (repS S q).L k) (Ob.mk (repS S q).L) ∧ (∀ k, rv'.ownBlock = some k → rv.ownBlock = some k) ∧ Mod (FC t f rv) w W9) := by
                          refine ⟨?_, ho9, ?_⟩
                          · rw [next_rep (now := now) ⟨HGG.out.c0, HGG.out.c1⟩ HQT.out HE.out]
                            refine hN9.congr (fun k _ => ?_) ?_ ?_
                            · show _ = fl ((L5 (tlS S q) (gdS S q) S.L).drop (upS S q)) k
                              rw [← HUP.out, fl_drop up HF4.out]
                            · show _ = Ob.mk ((L5 (tlS S q) (gdS S q) S.L).drop (upS S q))
                              rw [← HUP.out, mk_drop up HF4.out]
                            · show _ = (L5 (tlS S q) (gdS S q) S.L).drop (upS S q)
                              rw [← HUP.out]
                          · refine (((Mod.of_below (F := FC t f rv) HO7.out.below).trans HM8.out (fun x hx => ?_))).then hm9
                            have h1 := HRA.out
                            rcases hx with hx | hx | hx
                            · exact .inl hx
                            · exact .inr (by omega)
                            · exact .inr (by omega)
                        have HR9 : Hid (∀ k, FC t f rv' k → k < w.heap.size) := fun k hk => HFC.out k (by
                          rcases hk with h | h | h
                          · exact .inl h
                          · exact .inr (.inl h)
                          · exact .inr (.inr (ho9 k h)))
                        generalize hfr : frV (tlS S q) (gdS S q) S.L = frv at *
                        generalize hrn : rnV (tlS S q) S.L = rnv at *
                        have HFV := hidden (And.intro hfr hrn)
                        clear hfr hrn
                        clear hN9 ho9 hm9 hR9 hA9 hz8 hz9 DR HC7 HC8
                        go_wp2
                        obtain ⟨y1, y2⟩ := set3 (v0 := .slice (some ⟨ap, 0, none⟩) S.n S.n) (v1 := .int .i64 frv) (v2 := .int .i64 rnv) HZ9.out
                        refine bodyPost_ret (res_ct rfl rfl y1) rfl (.inr ⟨HE.out, ap, by rw [HFV.out.1, HFV.out.2]; rfl, by have := HRA.out; omega, HAA.out.stay y2 (fun e => by have := HRA.out; omega), ⟨rv', ⟨P9, G.out.1.stay y2 (fun k hk e => by have := HR9.out k hk; omega) (fun k cur _ hh e => by subst e; exact hh.ne HZ9.out (by decide) rfl)⟩, G.out.2.1⟩, G.out.2.2.trans y2 (fun x hx => .inr (by omega))⟩)
end
end Go.Proofs.Ytjceeckcfjjkkaa.Ob
