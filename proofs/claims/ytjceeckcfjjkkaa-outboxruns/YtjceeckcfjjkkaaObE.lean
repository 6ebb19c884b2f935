/-
  Timeout; the first chunk that is marked, that is on its way; all chunks.
  Conditions: the box lies in memory, or is nil, or was made by no call.
-/
import Derived.Test.YtjceeckcfjjkkaaObD
namespace Go.Proofs.Ytjceeckcfjjkkaa.Ob
open Go.ChangeShapes Go.WideShapes Go.ChangeAt Go.RowKit Go.Shelf
open Ba (hidden Has cell_lt heap_lt)
set_option linter.unusedVariables false
attribute [local go_sem] Oper.semAt_some

def tmF (p : Int) (_ : Nat) (x : Ch) : Ch := if x.st = 1 ∧ x.pa = p then { x with st := 2, mi := 0 } else x
section
variable {D F : Nat → Prop} {w w' : World} {t f : Nat} {rv : Value} {P : List CV} {nx : Int} {n : Nat} {L : List Ch} {fs : Nat → Int} {m : Int} {i g o : Nat} {x y : Ch}
theorem Lk.up {h : Nat → Ch → Ch} (hk : Lk n L) (k : Nat) (hh : ∀ i x, (h i x).p.d = x.p.d ∧ (h i x).pa = x.pa) : Lk n (up k h L) := by
  refine ⟨by rw [up_len]; exact hk.1, fun y hy => ?_⟩
  obtain ⟨j, hj⟩ := List.mem_iff_getElem?.1 hy
  rw [up_at] at hj
  cases hx : L[j]? with
  | none => rw [hx] at hj; cases hj
  | some x =>
    rw [hx] at hj
    cases hj
    have h1 := hk.2 x (List.mem_of_getElem? hx)
    show (if j < k then h j x else x).p.d.length ≤ _ ∧ _ ≤ (if j < k then h j x else x).pa ∧ (if j < k then h j x else x).pa < _
    by_cases e : j < k
    · rw [if_pos e, (hh j x).1, (hh j x).2]; exact h1
    · rw [if_neg e]; exact h1
theorem tmF_fix (p : Int) (i : Nat) (x : Ch) : (tmF p i x).p.d = x.p.d ∧ (tmF p i x).pa = x.pa := by unfold tmF; split <;> exact ⟨rfl, rfl⟩
set_option maxHeartbeats 1000000 in
theorem timeout_ok (h : No D w t f rv P nx n L (fun k => fl L k) (mk L)) (hk : Lk n L) (pa : Int) (hpa : 0 ≤ pa ∧ pa < n) :
    Calls Try.prog 25 #[.pointer (some ⟨t, 0, none⟩), .int .i64 pa] w fun e w' => e = .returned (.tuple #[.int .i64 (fl L pa), .int .i64 0]) ∧ (∃ P', No D w' t f rv P' nx n (up L.length (tmF pa) L) (fun k => fl (up L.length (tmF pa) L) k) (mk (up L.length (tmF pa) L))) ∧ Mod (FC t f rv) w w' := by
  refine (callsIn_wide (n := 10)).1 ?_
  obtain ⟨W0, hW0⟩ : ∃ W0, W0 = (w.alloc (.cells #[.pointer (some ⟨t, 0, none⟩)] 24)).alloc (.cells #[.int .i64 pa] 3) := ⟨_, rfl⟩
  have hB0 : Below w.heap.size w W0 := by rw [hW0]; exact ((Below.refl _ w).alloc (Nat.le_refl _) _).alloc (by simp) _
  have hN0 := h.later hB0
  have hx0 : Boxed W0 w.heap.size 24 (.pointer (some ⟨t, 0, none⟩)) := by rw [hW0]; exact (Boxed.new w 24 _).alloc _
  have hx1 : Boxed W0 (w.heap.size + 1) 3 (.int .i64 pa) := by
    rw [hW0]
    have := Boxed.new (w.alloc (.cells #[.pointer (some ⟨t, 0, none⟩)] 24)) 3 (.int .i64 pa)
    rw [World.size_alloc] at this
    exact this
  have U := hidden (unmade hN0)
  have H := hidden (has hN0 pa)
  rw [decide_eq_true hpa] at H
  have d0 := hx0.cell
  have d1 := hx1.cell
  have c2 := hN0.q.cell 2 rfl
  obtain ⟨cs, hcs, hl⟩ := hN0.fl
  have fj := hcs.cell pa.toNat (hl pa.toNat (by omega))
  have e1 : ((pa.toNat : Nat) : Int) = pa := by omega
  rw [e1] at fj
  have HW0 := hidden hW0
  have HB0 := hidden hB0
  have HN0 := hidden hN0
  have HX := hidden (And.intro hx0 hx1)
  have HK := hidden hk
  have hsz : W0.heap.size = w.heap.size + 2 := by rw [hW0]; simp
  have HSZ := hidden hsz
  have HBL : Hid (∀ k, FC t f rv k → k < w.heap.size) := fun k hk => h.lt hk
  obtain ⟨h0, h1⟩ := hpa
  generalize hfl : fl L pa = Z at fj ⊢
  clear h hN0 hx0 hx1 hW0 hB0 hk hcs hl hsz e1 hfl
  refine callsIn_of_wp_marks Try.func25 rfl trivial ?_ rfl
  simp only [Try.ntmps25, List.size_toArray, List.length_cons, List.length_nil, Nat.reduceAdd, Nat.reduceSub, Array.replicate_succ, Array.replicate_zero, List.push_toArray, List.append_toArray, List.nil_append, List.cons_append]
  gi_wp2_with fail
  rw [← HW0.out]
  refine ⟨trivial, (callsIn_wide.2 U.out).mono ?_⟩
  rintro e w' ⟨rfl, rfl⟩
  gi_wp2_with fail
  refine ⟨trivial, (callsIn_wide.2 H.out).mono ?_⟩
  rintro e w' ⟨rfl, rfl⟩
  gi_wp2_with fail
  rename_i K Q hK
  refine (wpIn_wide (n := 10)).2 ?_
  go_quiet (fail)
  refine hK _ _ ?_
  clear hK Q U H
  obtain ⟨W2, hW2⟩ : ∃ W2, W2 = W0.drewN nq := ⟨_, rfl⟩
  have hB2 : Below W0.heap.size W0 W2 := by rw [hW2]; exact ⟨rfl, rfl, rfl, Nat.le_refl _, fun _ _ => rfl⟩
  have hN2 := HN0.out.later hB2
  have HN2 := hidden hN2
  have y0 : Boxed W2 w.heap.size 24 (.pointer (some ⟨t, 0, none⟩)) := (hB2.block _ HX.out.1.lt).trans HX.out.1
  have y1 : Boxed W2 (w.heap.size + 1) 3 (.int .i64 pa) := (hB2.block _ HX.out.2.lt).trans HX.out.2
  have HY := hidden (And.intro y0 y1)
  have HB2 : Hid (Below w.heap.size w W2) := HB0.out.trans (hB2.mono (by have := HSZ.out; omega))
  have HS2 : Hid (w.heap.size + 2 ≤ W2.heap.size) := by have := hB2.size; have := HSZ.out; show _ ≤ _; omega
  rw [← hW2]
  have z0 := y0.cell
  clear hW2 hB2 hN2 y0 y1 HN0 HX HB0 HW0 c2 d0 d1 fj HSZ
  gi_wp2_with fail
  refine range_each (t := t) (rv := rv) (n := L.length) rfl HN2.out.row (by have := HK.out.1; omega)
    (fun k W => (∃ P', No D W t f rv P' nx n (up k (tmF pa) L) (fun k' => fl (up k (tmF pa) L) k') (mk (up k (tmF pa) L))) ∧ Mod (FC t f rv) w W ∧ Boxed W w.heap.size 24 (.pointer (some ⟨t, 0, none⟩)) ∧ Boxed W (w.heap.size + 1) 3 (.int .i64 pa))
    (fun W => False) (fun k W hI => by obtain ⟨⟨P', hN⟩, _⟩ := hI; exact hN.q.cell 0 rfl)
    (fun k W W' hI hc => by
      obtain ⟨⟨P', hN⟩, hm, b0, b1⟩ := hI
      exact ⟨⟨P', hN.calm hc⟩, hc.mod hm (by have := HB2.out.size; omega), boxed_calm b0 hc, boxed_calm b1 hc⟩)
    (fun W W' hI hc => hI.elim)
    ⟨⟨_, by rw [up_zero]; exact HN2.out⟩, Mod.of_below HB2.out, HY.out.1, HY.out.2⟩
    ?round ?done (fun D W _ hI _ => hI.elim)
  case round =>
    intro l k W hk hi
    gi_wp2
    refine ⟨trivial, fun W3 hI3 => ?_⟩
    obtain ⟨⟨P3, hN3⟩, hm3, b0, b1⟩ := hI3
    obtain ⟨x, hx⟩ : ∃ x, L[k]? = some x := ⟨_, List.getElem?_eq_getElem hk⟩
    obtain ⟨g, o, hp, he⟩ := hN3.place (k := k) (by rw [up_len]; exact hk)
    rw [he]
    have FL := hidden (flies hN3 hp (up_here hx) pa)
    have z0 := b0.cell
    have z1 := b1.cell
    have HP := hidden hp
    have HX := hidden hx
    have H3 := hidden (And.intro hm3 (And.intro b0 b1))
    have HN3 := hidden hN3
    have HKL := hidden hk
    have MK := hidden (mark hN3 (HK.out.up k (fun i x => tmF_fix pa i x)) hp (up_here hx))
    clear hN3 hp hx hm3 b0 b1 he hi
    gi_wp2_with fail
    by_cases hd : x.st = 1 ∧ x.pa = pa
    · rw [decide_eq_true hd] at FL
      have HD := hidden hd
      clear hd
      refine ⟨trivial, (CallsIn.inRound l (callsIn_wide.2 FL.out)).mono ?_⟩
      rintro e w' ⟨rfl, rfl⟩
      gi_wp2_with fail
      refine ⟨trivial, (CallsIn.inRound l (callsIn_wide.2 MK.out)).mono ?_⟩
      rintro e w4 ⟨rfl, ⟨P4, hN4⟩, hm4⟩
      have hs : ({ x with st := 2, mi := 0 } : Ch) = tmF pa k x := by unfold tmF; rw [if_pos HD.out]
      rw [hs, up_set HX.out] at hN4
      have G : Hid (KeepsFrom W2.heap.size W3 w4 ∧ (∃ P', No D w4 t f rv P' nx n (up (k + 1) (tmF pa) L) (fun k' => fl (up (k + 1) (tmF pa) L) k') (mk (up (k + 1) (tmF pa) L))) ∧ Mod (FC t f rv) w w4 ∧ Boxed w4 w.heap.size 24 (.pointer (some ⟨t, 0, none⟩)) ∧ Boxed w4 (w.heap.size + 1) 3 (.int .i64 pa)) := by
        have hne : ∀ j, w.heap.size ≤ j → ¬ FC t f rv j := fun j hj hf => by have := HBL.out j hf; omega
        exact ⟨keeps_mod hm4 (fun j hj => .inl (by have := HBL.out j hj; have := HS2.out; omega)), ⟨P4, hN4⟩, H3.out.1.then hm4, (hm4.block _ H3.out.2.1.lt (hne _ (Nat.le_refl _))).trans H3.out.2.1, (hm4.block _ H3.out.2.2.lt (hne _ (by omega))).trans H3.out.2.2⟩
      clear hN4 hm4 hs
      gi_wp2
      exact G.out
    · rw [decide_eq_false hd] at FL
      have hs : tmF pa k x = x := by unfold tmF; rw [if_neg hd]
      have HS := hidden hs
      clear hd hs
      refine ⟨trivial, (CallsIn.inRound l (callsIn_wide.2 FL.out)).mono ?_⟩
      rintro e w' ⟨rfl, rfl⟩
      gi_wp2
      refine ⟨KeepsFrom.refl _ _, ⟨P3, ?_⟩, H3.out⟩
      rw [up_same HX.out HS.out]
      exact HN3.out
  case done =>
    rintro Dd W hD ⟨hPN, hm, _, _⟩ hdef
    have G := hidden (And.intro hPN hm)
    clear hPN hm
    gi_wp2
    refine ⟨by simp, .inl ⟨_, _, rfl, run_takeDeferred hdef, ?_⟩⟩
    have hc := Calm.put (B := W2.heap.size) (.deferred none) hD hdef rfl
    obtain ⟨⟨P', hN⟩, hm⟩ := G.out
    exact ⟨_, results_tmp2 rfl _ _ _, rfl, ⟨P', hN.calm hc⟩, hc.mod hm (by have := HB2.out.size; omega)⟩
theorem timeout_path (h : No D w t f rv P nx n L fs m) (pa : Int) (hpa : ¬ (0 ≤ pa ∧ pa < n)) :
    Calls Try.prog 25 #[.pointer (some ⟨t, 0, none⟩), .int .i64 pa] w fun e w' => e = .returned (.tuple #[.int .i64 0, .int .i64 90]) ∧ Below w.heap.size w w' := by
  refine (callsIn_wide (n := 10)).1 ?_
  obtain ⟨W0, hW0⟩ : ∃ W0, W0 = (w.alloc (.cells #[.pointer (some ⟨t, 0, none⟩)] 24)).alloc (.cells #[.int .i64 pa] 3) := ⟨_, rfl⟩
  have hB0 : Below w.heap.size w W0 := by rw [hW0]; exact ((Below.refl _ w).alloc (Nat.le_refl _) _).alloc (by simp) _
  have hN0 := h.later hB0
  have hx0 : Boxed W0 w.heap.size 24 (.pointer (some ⟨t, 0, none⟩)) := by rw [hW0]; exact (Boxed.new w 24 _).alloc _
  have hx1 : Boxed W0 (w.heap.size + 1) 3 (.int .i64 pa) := by
    rw [hW0]
    have := Boxed.new (w.alloc (.cells #[.pointer (some ⟨t, 0, none⟩)] 24)) 3 (.int .i64 pa)
    rw [World.size_alloc] at this
    exact this
  have U := hidden (unmade hN0)
  have H := hidden (has hN0 pa)
  rw [decide_eq_false hpa] at H
  have d0 := hx0.cell
  have d1 := hx1.cell
  have HW0 := hidden hW0
  have HB0 := hidden hB0
  clear h hN0 hx0 hx1 hW0 hB0 hpa
  refine callsIn_of_wp_marks Try.func25 rfl trivial ?_ rfl
  simp only [Try.ntmps25, List.size_toArray, List.length_cons, List.length_nil, Nat.reduceAdd, Nat.reduceSub, Array.replicate_succ, Array.replicate_zero, List.push_toArray, List.append_toArray, List.nil_append, List.cons_append]
  gi_wp2_with fail
  rw [← HW0.out]
  refine ⟨trivial, (callsIn_wide.2 U.out).mono ?_⟩
  rintro e w' ⟨rfl, rfl⟩
  gi_wp2_with fail
  refine ⟨trivial, (callsIn_wide.2 H.out).mono ?_⟩
  rintro e w' ⟨rfl, rfl⟩
  gi_wp2
  exact ⟨_, results_tmp2 rfl _ _ _, rfl, HB0.out⟩
theorem timeout_no {p : Option Addr} (h : Un w p) (pa : Int) :
    Calls Try.prog 25 #[.pointer p, .int .i64 pa] w fun e w' => e = .returned (.tuple #[.int .i64 0, .int .i64 4]) ∧ Below w.heap.size w w' := by
  refine (callsIn_wide (n := 10)).1 ?_
  obtain ⟨W0, hW0⟩ : ∃ W0, W0 = (w.alloc (.cells #[.pointer p] 24)).alloc (.cells #[.int .i64 pa] 3) := ⟨_, rfl⟩
  have hB0 : Below w.heap.size w W0 := by rw [hW0]; exact ((Below.refl _ w).alloc (Nat.le_refl _) _).alloc (by simp) _
  have hx0 : Boxed W0 w.heap.size 24 (.pointer p) := by rw [hW0]; exact (Boxed.new w 24 _).alloc _
  have U := hidden (unmade_no (h.later hB0))
  have d0 := hx0.cell
  have HW0 := hidden hW0
  have HB0 := hidden hB0
  clear h hx0 hW0 hB0
  refine callsIn_of_wp_marks Try.func25 rfl trivial ?_ rfl
  simp only [Try.ntmps25, List.size_toArray, List.length_cons, List.length_nil, Nat.reduceAdd, Nat.reduceSub, Array.replicate_succ, Array.replicate_zero, List.push_toArray, List.append_toArray, List.nil_append, List.cons_append]
  gi_wp2_with fail
  rw [← HW0.out]
  refine ⟨trivial, (callsIn_wide.2 U.out).mono ?_⟩
  rintro e w' ⟨rfl, rfl⟩
  gi_wp2
  exact ⟨_, results_tmp2 rfl _ _ _, rfl, HB0.out⟩
/-- the first of its kind -/
def Fst (q : Ch → Prop) (L : List Ch) (i : Nat) (x : Ch) : Prop := L[i]? = some x ∧ q x ∧ ∀ j y, j < i → L[j]? = some y → ¬ q y
theorem Fst.unique {q : Ch → Prop} {i j : Nat} {x y : Ch} (h : Fst q L i x) (k : Fst q L j y) : i = j ∧ x = y := by
  have e : i = j := by
    rcases Nat.lt_trichotomy i j with e | e | e
    · exact absurd h.2.1 (k.2.2 i x e h.1)
    · exact e
    · exact absurd k.2.1 (h.2.2 j y e k.1)
  subst e
  have := h.1.symm.trans k.1
  cases this
  exact ⟨rfl, rfl⟩
theorem some_marked (hk : ∀ x ∈ L, 1 ≤ x.p.d.length) : 0 < mk L ↔ ∃ x ∈ L, x.st = 2 := by
  constructor
  · intro h
    refine Classical.byContradiction fun hn => ?_
    have : mk L = 0 := sm_zero L (fun x hx => by unfold mkF; rw [if_neg (fun e => hn ⟨x, hx, e⟩)])
    omega
  · rintro ⟨x, hx, e⟩
    have h1 := sm_ge (f := mkF) (L := L) (fun y _ => mkF_nn y) hx
    have h2 := hk x hx
    have h3 : mkF x = sz x := by unfold mkF; rw [if_pos e]
    unfold sz at h3
    show 0 < sm mkF L
    omega
theorem some_flying (hk : ∀ x ∈ L, 1 ≤ x.p.d.length) (p : Int) : 0 < fl L p ↔ ∃ x ∈ L, x.st = 1 ∧ x.pa = p := by
  constructor
  · intro h
    refine Classical.byContradiction fun hn => ?_
    have : fl L p = 0 := sm_zero L (fun x hx => by unfold flF; rw [if_neg (fun e => hn ⟨x, hx, e⟩)])
    omega
  · rintro ⟨x, hx, e⟩
    have h1 := sm_ge (f := flF p) (L := L) (fun y _ => flF_nn p y) hx
    have h2 := hk x hx
    have h3 : flF p x = sz x := by unfold flF; rw [if_pos e]
    unfold sz at h3
    show 0 < sm (flF p) L
    omega
theorem results_cells {fn : Func} {p u : Tmp} {ty tz : TypeId} (h : fn.results = #[.cell p ty, .cell u tz]) (tmps : Array Value) (P : Program) (w : World) :
    (results fn tmps).run P w =
      ((asAddr (tmps.getD p undef)).run P w).andThen fun a w₁ => ((loadVar ty a).run P w₁).andThen fun v w₂ => ((asAddr (tmps.getD u undef)).run P w₂).andThen fun b w₃ => ((loadVar tz b).run P w₃).andThen fun v' w₄ => .ok (.tuple #[v, v']) w₄ := by
  simp only [results, h]
  simp [Sem.run_bind, Result.andThen]
theorem results_cell1 {fn : Func} {p : Tmp} {ty : TypeId} (h : fn.results = #[.cell p ty]) (tmps : Array Value) (P : Program) (w : World) :
    (results fn tmps).run P w = ((asAddr (tmps.getD p undef)).run P w).andThen fun a w₁ => (loadVar ty a).run P w₁ := by
  simp only [results, h]
  simp [Sem.run_bind, Result.andThen]
theorem results_tct {fn : Func} {p u q : Tmp} {ty : TypeId} (h : fn.results = #[.tmp p, .cell u ty, .tmp q]) (tmps : Array Value) (P : Program) (w : World) :
    (results fn tmps).run P w = ((asAddr (tmps.getD u undef)).run P w).andThen fun a w₁ => ((loadVar ty a).run P w₁).andThen fun v w₂ => .ok (.tuple #[tmps.getD p undef, v, tmps.getD q undef]) w₂ := by
  simp only [results, h]
  simp [Sem.run_bind, Result.andThen]
theorem results_ctt {fn : Func} {p u q : Tmp} {ty : TypeId} (h : fn.results = #[.cell p ty, .tmp u, .tmp q]) (tmps : Array Value) (P : Program) (w : World) :
    (results fn tmps).run P w = ((asAddr (tmps.getD p undef)).run P w).andThen fun a w₁ => ((loadVar ty a).run P w₁).andThen fun v w₂ => .ok (.tuple #[v, tmps.getD u undef, tmps.getD q undef]) w₂ := by
  simp only [results, h]
  simp [Sem.run_bind, Result.andThen]
/-- what firstMarked tells -/
def FmO (rv : Value) (L : List Ch) (v : Value) : Prop := (∃ i x g o, Fst (fun x => x.st = 2) L i x ∧ v = .pointer (some ⟨g, o, none⟩) ∧ Pl rv i g o) ∨ (v = .pointer none ∧ ∀ x ∈ L, x.st ≠ 2)
set_option maxHeartbeats 1000000 in
theorem firstMarked (h : No D w t f rv P nx n L fs (mk L)) (hk : Lk n L) (hd : ∀ x ∈ L, 1 ≤ x.p.d.length) :
    Calls Try.prog 61 #[.pointer (some ⟨t, 0, none⟩)] w fun e w' => ∃ v, e = .returned v ∧ FmO rv L v ∧ Below w.heap.size w w' := by
  refine (callsIn_wide (n := 10)).1 ?_
  obtain ⟨W0, hW0⟩ : ∃ W0, W0 = w.alloc (.cells #[.pointer none] 103) := ⟨_, rfl⟩
  have hB0 : Below w.heap.size w W0 := by rw [hW0]; exact (Below.refl _ w).alloc (Nat.le_refl _) _
  have hN0 := h.later hB0
  have hx0 : Boxed W0 w.heap.size 103 (.pointer none) := by rw [hW0]; exact Boxed.new w 103 _
  have d0 := hx0.cell
  have r0 := hx0.frozen
  have c3 := h.q.cell 3 rfl
  have htl := h.q.lt
  have HW0 := hidden hW0
  have HB0 := hidden hB0
  have HN0 := hidden hN0
  have HX := hidden hx0
  have HK := hidden hk
  have HM := hidden (some_marked hd)
  have hsz : W0.heap.size = w.heap.size + 1 := by rw [hW0]; simp
  have HSZ := hidden hsz
  have HMM := hidden hk.mk
  clear h hN0 hx0 hW0 hB0 hk hsz hd
  by_cases hm : 0 < mk L
  · have HE := hidden (HM.out.1 hm)
    generalize mk L = M at *
    refine callsIn_of_wp_marks Try.func61 rfl trivial ?_ rfl
    simp only [Try.ntmps61, List.size_toArray, List.length_cons, List.length_nil, Nat.reduceAdd, Nat.reduceSub, Array.replicate_succ, Array.replicate_zero, List.push_toArray, List.append_toArray, List.nil_append, List.cons_append]
    gi_wp2_with fail
    rw [← HW0.out]
    refine range_each (t := t) (rv := rv) (n := L.length) rfl HN0.out.row (by have := HK.out.1; omega)
      (fun k W => No D W t f rv P nx n L fs M ∧ Below w.heap.size w W ∧ Boxed W w.heap.size 103 (.pointer none) ∧ ∀ j y, j < k → L[j]? = some y → ¬ y.st = 2)
      (fun W => Below w.heap.size w W ∧ ∃ i x g o, Fst (fun x => x.st = 2) L i x ∧ Pl rv i g o ∧ Boxed W w.heap.size 103 (.pointer (some ⟨g, o, none⟩)))
      (fun k W hI => hI.1.q.cell 0 rfl)
      (fun k W W' hI hc => ⟨hI.1.calm hc, hc.below (by have := HSZ.out; omega) hI.2.1 (Nat.le_refl _), boxed_calm hI.2.2.1 hc, hI.2.2.2⟩)
      (fun W W' hI hc => by
        obtain ⟨hB, i, x, g, o, h1, h2, h3⟩ := hI
        exact ⟨hc.below (by have := HSZ.out; omega) hB (Nat.le_refl _), i, x, g, o, h1, h2, boxed_calm h3 hc⟩)
      ⟨HN0.out, HB0.out, HX.out, fun j y hj => absurd hj (Nat.not_lt_zero _)⟩
      ?round ?done ?stop
    case round =>
      intro l k W hk hi
      gi_wp2
      refine ⟨trivial, fun W3 hI3 => ?_⟩
      obtain ⟨hN3, hB3, b0, hF⟩ := hI3
      obtain ⟨x, hx⟩ : ∃ x, L[k]? = some x := ⟨_, List.getElem?_eq_getElem hk⟩
      obtain ⟨g, o, hp, he⟩ := hN3.place (k := k) hk
      rw [he]
      obtain ⟨v, hcl, hby, hg, _⟩ := hN3.chunk hp hx
      have c6 := hcl 6 _ rfl
      simp only at c6
      have z0 := b0.cell
      have q0 := b0.frozen
      have H3 := hidden (And.intro hN3 (And.intro hB3 (And.intro b0 hF)))
      have HP := hidden hp
      have HX := hidden hx
      have HKL := hidden hk
      generalize hst : x.st = s at c6
      have HST := hidden hst
      clear hN3 hB3 b0 hF hp hx he hcl hby hk hi hst
      by_cases hs : s = 2
      · subst hs
        gi_wp2
        refine ⟨(KeepsOthers.setCell _ _ _).from _, H3.out.2.1.setCell (p := ⟨w.heap.size, 0, none⟩) (by simp) _, k, x, g, o, ⟨HX.out, HST.out, H3.out.2.2.2⟩, HP.out, H3.out.2.2.1.set _⟩
      · have hsb : (s == 2) = false := by simp [hs]
        gi_wp2
        refine ⟨KeepsFrom.refl _ _, H3.out.1, H3.out.2.1, H3.out.2.2.1, fun j y hj hy => ?_⟩
        rcases Nat.lt_or_ge j k with h' | h'
        · exact H3.out.2.2.2 j y h' hy
        · obtain rfl : j = k := by omega
          rw [HX.out] at hy
          cases hy
          rw [HST.out]
          exact hs
    case done =>
      rintro Dd W hD ⟨hN, hB, b0, hF⟩ hdef
      obtain ⟨x, hx, hx2⟩ := HE.out
      obtain ⟨j, hj⟩ := List.mem_iff_getElem?.1 hx
      exact absurd hx2 (hF j x (List.getElem?_eq_some_iff.1 hj).1 hj)
    case stop =>
      rintro Dd W hD ⟨hB, i, x, g, o, h1, h2, h3⟩ hdef
      have G := hidden (And.intro hB (And.intro h1 (And.intro h2 h3)))
      clear hB h1 h2 h3
      gi_wp2
      refine ⟨by simp, .inl ⟨_, _, rfl, run_takeDeferred hdef, ?_⟩⟩
      have hc := Calm.put (B := W0.heap.size) (.deferred none) hD hdef rfl
      have k1 := (boxed_calm G.out.2.2.2 hc).cell
      refine ⟨.pointer (some ⟨g, o, none⟩), ?_, _, rfl, .inl ⟨i, x, g, o, G.out.2.1, rfl, G.out.2.2.1⟩, hc.below (by have := HSZ.out; omega) G.out.1 (Nat.le_refl _)⟩
      rw [results_cell1 rfl]
      simp [go_sem, k1]
  · have HE : Hid (∀ x ∈ L, x.st ≠ 2) := fun x hx e => hm (HM.out.2 ⟨x, hx, e⟩)
    generalize mk L = M at *
    have hm' : ¬ (0 : Int) < M := hm
    refine callsIn_of_wp_marks Try.func61 rfl trivial ?_ rfl
    simp only [Try.ntmps61, List.size_toArray, List.length_cons, List.length_nil, Nat.reduceAdd, Nat.reduceSub, Array.replicate_succ, Array.replicate_zero, List.push_toArray, List.append_toArray, List.nil_append, List.cons_append]
    gi_wp2
    rw [← HW0.out]
    refine ⟨.pointer none, ?_, _, rfl, .inr ⟨rfl, HE.out⟩, HB0.out⟩
    rw [results_cell1 rfl]
    simp [go_sem, d0]
end
end Go.Proofs.Ytjceeckcfjjkkaa.Ob
