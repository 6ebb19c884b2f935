/-
  The steps of a report, one behind the other; what is left of a box behind it.
  Conditions: as at each lemma.
-/
import Derived.Test.YtjceeckcfjjkkaaObV
namespace Go.Proofs.Ytjceeckcfjjkkaa.Ob
open Go.ChangeShapes Go.WideShapes Go.ChangeAt Go.RowKit Go.Shelf
open Ba (hidden Has cell_lt heap_lt)
set_option linter.unusedVariables false
section
variable {D F : Nat → Prop} {w w' X X' : World} {t f : Nat} {rv : Value} {P : List CV} {nx : Int} {n K : Nat} {L L' M : List Ch} {i g o : Nat} {x y : Ch} {R ap N tb fb nb B : Nat} {fr rn fr' rn' : Int} {ak ak' : Nat → Ak} {tl gd nl : Nat → Bool} {now : Int}
theorem Lk.map {h : Nat → Ch → Ch} (hk : Lk n L) (hh : ∀ i x, (h i x).p.d = x.p.d ∧ (h i x).pa = x.pa) : Lk n (L.mapIdx h) := by
  rw [← up_full]
  exact hk.up _ hh
theorem L4_at : (L4 tl gd L)[i]? = L[i]?.map fun x => f4 (nwl tl L) gd i (f3 tl i x) := by
  unfold L4 L3
  rw [List.getElem?_mapIdx, List.getElem?_mapIdx]
  cases L[i]? <;> rfl
theorem Cx.pth (h : Cx D w t f rv nx n L R ap tb fb nb fr rn ak tl gd nl) (ha : ∀ i, i < n → ak i = ak' i) : Cx D w t f rv nx n L R ap tb fb nb fr rn ak' tl gd nl := ⟨h.no, h.rd, h.aw.congr ha, h.tb_, h.fb_, h.nb_⟩
theorem Cx.num (h : Cx D w t f rv nx n L R ap tb fb nb fr rn ak tl gd nl) (h1 : fr = fr') (h2 : rn = rn') : Cx D w t f rv nx n L R ap tb fb nb fr' rn' ak tl gd nl := by subst h1 h2; exact h
/-- newly told chunks are on their way no more -/
theorem newly_st (hx : L[i]? = some x) (h : nwl tl L i = true) : (f4 (nwl tl L) gd i (f3 tl i x)).st ≠ 1 := by
  have h1 := h
  rw [nwl_at hx] at h1
  have ht : tl i = true := (Bool.and_eq_true _ _ ▸ h1 : _ ∧ _).1
  have e3 : f3 tl i x = x := by unfold f3; rw [if_neg (fun e => by rw [ht] at e; cases e.2)]
  rw [e3]
  unfold f4
  split
  · simp
  · unfold f4a; rw [if_pos h]; simp
set_option maxHeartbeats 1000000 in
theorem take (h : Cx D w t f rv nx n L R ap tb fb nb 0 0 (fun _ => ⟨0, false, 0, 0⟩) tl gd (nwl tl L)) (hk : Lk n L) (hg : ∀ x ∈ L, Gc K n x) (hK : K ≤ 1000) (h1n : 1 ≤ n) (hn : n ≤ 8) (hnow : 0 ≤ now ∧ now ≤ 1099511627776) :
    Calls Try.prog 58 #[.pointer (some ⟨R, 0, none⟩), .int .i64 now] w fun e w' => e = .returned (.tuple #[]) ∧ Cx D w' t f rv nx n (L5 tl gd L) R ap tb fb nb (frV tl gd L) (rnV tl L) (fun p => akV tl gd now L p) tl gd (nwl tl L) ∧ Mod (FX t f rv R ap) w w' := by
  have hl3 : Lk n (L3 tl L) := hk.map (fun i x => f3_two tl i x)
  have hl4 : Lk n (L4 tl gd L) := hl3.map (fun i x => f4_two _ gd i x)
  have h4 : ∀ y ∈ L4 tl gd L, Gc K n y := fun y hy => by
    obtain ⟨i, hi⟩ := List.mem_iff_getElem?.1 hy
    rw [L4_at] at hi
    cases hx : L[i]? with
    | none => rw [hx] at hi; cases hi
    | some x => rw [hx] at hi; cases hi; exact ((hg x (List.mem_of_getElem? hx)).f3 tl i).f4 _ gd i
  have C1 := hidden (findMoved h hk hn (fun _ _ => rfl))
  have C2 := hidden (fun (w : World) (h : Cx D w t f rv nx n L R ap tb fb nb 0 0 (fun p => ⟨0, mvA (nwl tl L) p L L.length, 0, 0⟩) tl gd (nwl tl L)) => countCame (now := now) h hk hn hnow (fun x hx => ⟨(hg x hx).se0, (hg x hx).se1⟩) (fun _ _ => rfl))
  have C3 := hidden (fun (w : World) (ak : Nat → Ak) (h : Cx D w t f rv nx n L R ap tb fb nb 0 0 ak tl gd (nwl tl L)) => markReneged h hk rfl)
  have C4 := hidden (fun (w : World) (ak : Nat → Ak) (h : Cx D w t f rv nx n (L3 tl L) R ap tb fb nb 0 (rnV tl L) ak tl gd (nwl tl L)) => freeCame h hl3 rfl)
  have C5 := hidden (fun (w : World) (ak : Nat → Ak) (hlo : ∀ i, i < n → (ak i).lo = 0) (h : Cx D w t f rv nx n (L4 tl gd L) R ap tb fb nb (frV tl gd L) (rnV tl L) ak tl gd (nwl tl L)) => countMissing (L := L) h hl4 h1n hn (L4_len ..) (fun x hx => ⟨(h4 x hx).se0, (h4 x hx).se1⟩) (fun x hx => ⟨(h4 x hx).mi0, by have := (h4 x hx).miK; omega, (h4 x hx).mq⟩)
    (fun i x hx => by
      rw [L4_at] at hx
      cases hy : L[i]? with
      | none => rw [hy] at hx; cases hx
      | some y =>
        rw [hy] at hx; cases hx
        exact ⟨y, rfl, by rw [(f4_fix ..).2.1, (f3_fix ..).2.1], by rw [(f4_fix ..).2.2.1, (f3_fix ..).2.2.1]⟩)
    (fun i x hx hn => by
      rw [L4_at] at hx
      cases hy : L[i]? with
      | none => rw [hy] at hx; cases hx
      | some y => rw [hy] at hx; cases hx; exact newly_st hy hn) hlo)
  have HR := hidden h.rd
  clear h hk hg hnow hl3 hl4 h4
  go_enter Try.func58, Try.ntmps58
  go_wp2_with fail
  refine Calls.mono C1.out ?_
  rintro e w1 ⟨rfl, k1, m1⟩
  have K1 := hidden (C2.out w1 k1)
  have M1 := hidden m1
  clear k1 m1 C1 C2
  go_wp2_with fail
  refine Calls.mono K1.out ?_
  rintro e w2 ⟨rfl, k2, m2⟩
  have K2 := hidden (C3.out w2 _ k2)
  have M2 := hidden m2
  clear k2 m2 K1 C3
  go_wp2_with fail
  refine Calls.mono K2.out ?_
  rintro e w3 ⟨rfl, k3, m3⟩
  have K3 := hidden (C4.out w3 _ k3)
  have M3 := hidden m3
  clear k3 m3 K2 C4
  go_wp2_with fail
  refine Calls.mono K3.out ?_
  rintro e w4 ⟨rfl, k4, m4⟩
  have k5 := Cx.num (fr' := frV tl gd L) k4 (by unfold frV; rw [L3_len]) rfl
  have K4 := hidden (C5.out w4 _ (fun _ _ => rfl) k5)
  have M4 := hidden m4
  clear k4 m4 K3 C5 k5
  go_wp2_with fail
  refine Calls.mono K4.out ?_
  rintro e w5 ⟨rfl, k5, m5⟩
  have G := hidden (And.intro k5 m5)
  clear k5 m5 K4
  go_wp2
  go_end0
  refine ⟨rfl, G.out.1.pth (fun i hi => ?_), ?_⟩
  · unfold akV
    rw [L4_len]
  · have a1 := M1.out.mono (G := FX t f rv R ap) (fun k hk => .inr (.inr hk))
    have a2 := M2.out.mono (G := FX t f rv R ap) (fun k hk => .inr (.inr hk))
    have a3 := M3.out.mono (G := FX t f rv R ap) (fun k hk => hk.elim .inl (fun e => .inr (.inl e)))
    have a4 := M4.out.mono (G := FX t f rv R ap) (fun k hk => hk.elim .inl (fun e => .inr (.inl e)))
    have a5 := G.out.2.mono (G := FX t f rv R ap) (fun k hk => hk.elim .inl (fun e => .inr (.inr e)))
    exact (((a1.then a2).then a3).then a4).then a5
/-- what is told of for good is freed -/
theorem st_five (hg : gd i = true) (ht : tl i = true) (hx : L[i]? = some x) (h1 : 1 ≤ x.st) (h4 : x.st ≤ 4) : (f5 (nwl tl L) L i (f4 (nwl tl L) gd i (f3 tl i x))).st = 4 := by
  have e3 : f3 tl i x = x := by unfold f3; rw [if_neg (fun e => by rw [ht] at e; cases e.2)]
  have e4 : (f4 (nwl tl L) gd i x).st = 4 := by
    have hn := nwl_at (tl := tl) hx
    rw [ht, Bool.true_and] at hn
    unfold f4 f4a
    rw [hg, hn]
    by_cases ho : opn x = true
    · rw [if_pos ho]; simp
    · rw [if_neg ho]
      have hst : x.st = 3 ∨ x.st = 4 := by
        unfold opn at ho
        simp only [Bool.or_eq_true, decide_eq_true_eq] at ho
        omega
      rcases hst with hst | hst
      · rw [if_pos ⟨rfl, hst⟩]
      · rw [if_neg (fun e => by rw [hst] at e; cases e.2)]
        exact hst
  rw [e3]
  unfold f5
  rw [if_neg (fun e => by rw [e4] at e; cases e.1)]
  exact e4
theorem L5_first (u : Nat) (hg : ∀ x ∈ L, Gc K n x) (hu : ∀ i, i < u → gd i = true ∧ tl i = true) : ∀ x ∈ (L5 tl gd L).take u, x.st = 4 := by
  intro y hy
  obtain ⟨i, hi⟩ := List.mem_iff_getElem?.1 hy
  rw [List.getElem?_take] at hi
  by_cases e : i < u
  · rw [if_pos e, L5_at] at hi
    cases hx : L[i]? with
    | none => rw [hx] at hi; cases hi
    | some x =>
      rw [hx] at hi; cases hi
      have := hg x (List.mem_of_getElem? hx)
      exact st_five (hu i e).1 (hu i e).2 hx this.st1 this.st4
  · rw [if_neg e] at hi; cases hi
theorem fl_drop (u : Nat) (h : ∀ x ∈ L.take u, x.st = 4) (p : Int) : fl (L.drop u) p = fl L p := sm_drop u (fun x hx => by unfold flF; rw [if_neg (fun e => by have := h x hx; omega)])
theorem mk_drop (u : Nat) (h : ∀ x ∈ L.take u, x.st = 4) : mk (L.drop u) = mk L := sm_drop u (fun x hx => by unfold mkF; rw [if_neg (fun e => by have := h x hx; omega)])
theorem gdS_first {S : St} {q : Rq} : ∀ i, i < upS S q → gdS S q i = true ∧ tlS S q i = true := fun i hi => by
  have : gdV q.ns (upS S q) i = true := by unfold gdV; rw [decide_eq_true hi]; rfl
  exact ⟨this, by unfold tlS tlV; rw [this]; rfl⟩
theorem ins_append (gs hs : List (Int × Int)) (d : Int) : ins (gs ++ hs) d = (ins gs d || ins hs d) := by unfold ins; rw [List.any_append]
theorem tlS_eq {S : St} {q : Rq} (i : Nat) : (decide (i < upS S q) || ins (q.gs ++ q.ns) ((i : Int) + 1 - (upS S q : Nat))) = tlS S q i := by
  unfold tlS tlV gdV
  rw [ins_append]
  cases decide (i < upS S q) <;> cases ins q.gs ((i : Int) + 1 - (upS S q : Nat)) <;> cases ins q.ns ((i : Int) + 1 - (upS S q : Nat)) <;> rfl
theorem ord_append (gs hs : List (Int × Int)) : ord (gs ++ hs) = (ord gs && ord hs) := by unfold ord; rw [List.all_append]
theorem next_rep {S : St} {q : Rq} {now : Int} (hc : 0 ≤ S.c ∧ S.c < 4294967296) (ht : 0 ≤ q.tsn ∧ q.tsn < 4294967296) (he : repE S q now = 0) : nextS (repS S q) = nextS S := by
  obtain ⟨h1, h2, _⟩ := repE_up he
  unfold nextS repS
  simp only [List.length_drop, L5_len]
  omega
/-- the order of numbers, as a report asks it -/
theorem less_up {S : St} {q : Rq} (hc : 0 ≤ S.c ∧ S.c < 4294967296) (ht : 0 ≤ q.tsn ∧ q.tsn < 4294967296) : (0 < Ser.dist 4294967296 q.tsn S.c) ↔ (2147483648 < (q.tsn - S.c) % 4294967296) := by
  unfold Ser.dist
  split <;> omega
theorem diff_up {S : St} {q : Rq} {now : Int} (hc : 0 ≤ S.c ∧ S.c < 4294967296) (ht : 0 ≤ q.tsn ∧ q.tsn < 4294967296) (he : repE S q now = 0) (hl : S.L.length ≤ 1001) : Ser.dist 4294967296 S.c q.tsn = (upS S q : Nat) := by
  obtain ⟨h1, h2, _⟩ := repE_up he
  rw [h2]
  unfold Ser.dist
  split <;> omega
theorem past_up {S : St} {q : Rq} (hc : 0 ≤ S.c ∧ S.c < 4294967296) (ht : 0 ≤ q.tsn ∧ q.tsn < 4294967296) (h : ¬ 2147483648 < (q.tsn - S.c) % 4294967296) (hl : S.L.length ≤ 1001) (d : Int) (hd : 0 ≤ d ∧ d < 65536) :
    (0 ≤ Ser.dist 4294967296 (nextS S) q.tsn ∨ 0 ≤ Ser.dist 4294967296 (nextS S) ((q.tsn + d) % 4294967296)) ↔ (S.L.length : Int) < (q.tsn - S.c) % 4294967296 + d := by
  unfold Ser.dist nextS
  generalize hU : (q.tsn - S.c) % 4294967296 = U at *
  have e1 : (q.tsn - (S.c + (S.L.length : Int) + 1) % 4294967296) % 4294967296 = (U - (S.L.length : Int) - 1) % 4294967296 := by omega
  have e2 : ((q.tsn + d) % 4294967296 - (S.c + (S.L.length : Int) + 1) % 4294967296) % 4294967296 = (U + d - (S.L.length : Int) - 1) % 4294967296 := by omega
  rw [e1, e2]
  split <;> split <;> omega
end
end Go.Proofs.Ytjceeckcfjjkkaa.Ob
