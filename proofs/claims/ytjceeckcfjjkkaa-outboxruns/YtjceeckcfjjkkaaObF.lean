/-
  The first chunk on its way on a path; what is marked; a marked chunk is sent again.
  Conditions: the box lies in memory, or is nil, or was made by no call.
-/
import Derived.Test.YtjceeckcfjjkkaaObE
import Derived.Test.YtjceeckcfjjkkaaObO
namespace Go.Proofs.Ytjceeckcfjjkkaa.Ob
open Go.ChangeShapes Go.WideShapes Go.ChangeAt Go.RowKit Go.Shelf
open Ba (hidden Has cell_lt heap_lt)

set_option linter.unusedVariables false
attribute [local go_sem] Oper.semAt_some

/-- a chunk's cells in a block -/
def oc (x : Ch) (v : Value) : Array Value := #[.int .u32 x.ts, .int .i64 x.pa, .int .i64 x.ti, .int .i64 x.se, .int .i64 x.mi, .bool x.qu, .int .i64 x.st, .int .u16 x.p.sm, .int .u16 x.p.sn, .int .u32 x.p.pr, .bool x.p.un, v, .bool x.p.bg, .bool x.p.en]
theorem load14 {w : World} {b : Nat} {v0 v1 v2 v3 v4 v5 v6 v7 v8 v9 v10 v11 v12 v13 : Value} (h : Has w b #[v0, v1, v2, v3, v4, v5, v6, v7, v8, v9, v10, v11, v12, v13] 59) :
    (loadVar 59 ⟨b, 0, none⟩).run Try.prog w = .ok (.agg #[v0, v1, v2, v3, v4, v5, v6, v7, v8, v9, v10, v11, v12, v13]) w := by
  obtain ⟨e0, e1, e2, e3, e4, e5, e6, e7, e8, e9, e10, e11, e12, e13⟩ := cells14 h
  simp [go_sem, e0, e1, e2, e3, e4, e5, e6, e7, e8, e9, e10, e11, e12, e13]
theorem res_cells {fn : Func} {p u : Tmp} {tmps : Array Value} {w : World} {b1 b2 : Nat} {x : Ch} {v : Value} {bb : Bool} (h : fn.results = #[.cell p 59, .cell u 4]) (hp : tmps.getD p undef = .pointer (some ⟨b1, 0, none⟩)) (hu : tmps.getD u undef = .pointer (some ⟨b2, 0, none⟩)) (h1 : Has w b1 (oc x v) 59) (h2 : Has w b2 #[.bool bb] 4) :
    (results fn tmps).run Try.prog w = .ok (.tuple #[ov x v, .bool bb]) w := by
  have l1 := load14 h1
  have l2 := h2.cell 0 rfl
  rw [results_cells h, hp, hu]
  simp only [asAddr, Sem.run_pure, Result.andThen_ok, l1]
  simp [go_sem, l2, ov]
theorem res_ctt {fn : Func} {p u q : Tmp} {tmps : Array Value} {w : World} {b1 : Nat} {x : Ch} {v : Value} (h : fn.results = #[.cell p 59, .tmp u, .tmp q]) (hp : tmps.getD p undef = .pointer (some ⟨b1, 0, none⟩)) (h1 : Has w b1 (oc x v) 59) :
    (results fn tmps).run Try.prog w = .ok (.tuple #[ov x v, tmps.getD u undef, tmps.getD q undef]) w := by
  have l1 := load14 h1
  rw [results_ctt h, hp]
  simp only [asAddr, Sem.run_pure, Result.andThen_ok, l1]
  simp [go_sem, ov]
theorem res_tct {fn : Func} {p u q : Tmp} {tmps : Array Value} {w : World} {b1 : Nat} {x : Ch} {v : Value} (h : fn.results = #[.tmp p, .cell u 59, .tmp q]) (hp : tmps.getD u undef = .pointer (some ⟨b1, 0, none⟩)) (h1 : Has w b1 (oc x v) 59) :
    (results fn tmps).run Try.prog w = .ok (.tuple #[tmps.getD p undef, ov x v, tmps.getD q undef]) w := by
  have l1 := load14 h1
  rw [results_tct h, hp]
  simp only [asAddr, Sem.run_pure, Result.andThen_ok, l1]
  simp [go_sem, ov]
def zC : Ch := ⟨0, 0, 0, 0, 0, false, 0, ⟨0, 0, 0, false, [], false, false⟩⟩
theorem zO_eq : zO = oc zC (.slice none 0 0) := rfl
/-- what is told of a chunk, if there is one -/
def To (w w' : World) (q : Ch → Prop) (L : List Ch) (u : Value) (b : Bool) : Prop :=
  (∃ i x v, Fst q L i x ∧ u = ov x v ∧ b = true ∧ Mine w.heap.size w' v x.p.d) ∨ (u = .agg zO ∧ b = false ∧ ∀ x ∈ L, ¬ q x)
section
variable {D F : Nat → Prop} {w w' : World} {t f : Nat} {rv : Value} {P : List CV} {nx : Int} {n : Nat} {L : List Ch} {fs : Nat → Int} {m : Int} {i g o : Nat} {x y : Ch}
theorem calm_below {B n : Nat} {w W W' : World} (h : Calm B W W') (hn : n ≤ B) (hB : Below n w W) (hs : n ≤ w.heap.size) : Below n w W' := h.below hn hB hs
set_option maxHeartbeats 2000000 in
theorem first (h : No D w t f rv P nx n L (fun k => fl L k) m) (hk : Lk n L) (hd : ∀ x ∈ L, 1 ≤ x.p.d.length) (pa : Int) :
    Calls Try.prog 23 #[.pointer (some ⟨t, 0, none⟩), .int .i64 pa] w fun e w' => ∃ u b, e = .returned (.tuple #[u, .bool b]) ∧ To w w' (fun x => x.st = 1 ∧ x.pa = pa) L u b ∧ Below w.heap.size w w' := by
  refine (callsIn_wide (n := 10)).1 ?_
  obtain ⟨W0, hW0⟩ : ∃ W0, W0 = ((w.alloc (.cells #[.int .i64 pa] 3)).alloc (.cells zO 59)).alloc (.cells #[.bool false] 4) := ⟨_, rfl⟩
  have hO0 : Ow.Own w W0 [(w.heap.size + 2, #[.bool false], 4), (w.heap.size + 1, zO, 59), (w.heap.size, #[.int .i64 pa], 3)] := by
    have := (((Ow.Own.refl w).alloc #[.int .i64 pa] 3).alloc zO 59).alloc #[.bool false] 4
    simp only [World.size_alloc] at this
    rw [hW0]
    exact this
  have hB0 := hO0.below
  have hN0 := h.later hB0
  have hx0 : Boxed W0 w.heap.size 3 (.int .i64 pa) := hO0.has (List.mem_cons_of_mem _ (List.mem_cons_of_mem _ (List.mem_cons_self ..)))
  have d0 := hx0.cell
  have FY := hidden (flying hN0 pa)
  have hsz : W0.heap.size = w.heap.size + 3 := by rw [hW0]; simp
  have HSZ := hidden hsz
  have HO0 := hidden hO0
  have HN0 := hidden hN0
  have HK := hidden hk
  have HD := hidden hd
  unfold zO at hW0
  have HW0 := hidden hW0
  have hb2 : W0.cell? ⟨w.heap.size + 2, 0, none⟩ = some (.bool false) := hO0.cell (List.mem_cons_self ..) 0 rfl
  have rb2 := hO0.frozen (b := w.heap.size + 2) (List.mem_cons_self ..) 0
  obtain ⟨z0, z1, z2, z3, z4, z5, z6, z7, z8, z9, z10, z11, z12, z13⟩ := cells14 (hO0.has (b := w.heap.size + 1) (List.mem_cons_of_mem _ (List.mem_cons_self ..)))
  have rz := hO0.frozen (b := w.heap.size + 1) (List.mem_cons_of_mem _ (List.mem_cons_self ..))
  have ENO : Hid ((∀ x ∈ L, ¬ (x.st = 1 ∧ x.pa = pa)) ∨ ∃ x ∈ L, x.st = 1 ∧ x.pa = pa) := by
    rcases Classical.em (∃ x ∈ L, x.st = 1 ∧ x.pa = pa) with h | h
    · exact .inr h
    · exact .inl fun x hx e => h ⟨x, hx, e⟩
  have HFZ : Hid ((if 0 ≤ pa ∧ pa < (n : Int) then fl L ((pa.toNat : Nat) : Int) else 0) > 0 ↔ ∃ x ∈ L, x.st = 1 ∧ x.pa = pa) := by
    by_cases hp : 0 ≤ pa ∧ pa < (n : Int)
    · rw [if_pos hp, show ((pa.toNat : Nat) : Int) = pa by omega]
      exact some_flying hd pa
    · rw [if_neg hp]
      refine ⟨fun h => absurd h (by decide), fun ⟨x, hx, h1, h2⟩ => ?_⟩
      have := hk.2 x hx
      exact absurd (⟨by omega, by omega⟩ : 0 ≤ pa ∧ pa < (n : Int)) hp
  generalize (if 0 ≤ pa ∧ pa < (n : Int) then fl L ((pa.toNat : Nat) : Int) else 0) = Z at FY HFZ
  clear h hN0 hx0 hW0 hO0 hB0 hk hsz hd
  by_cases hz : (0 : Int) < Z
  · have HE := hidden (HFZ.out.1 hz)
    refine callsIn_of_wp_marks Try.func23 rfl trivial ?_ rfl
    simp only [Try.ntmps23, List.size_toArray, List.length_cons, List.length_nil, Nat.reduceAdd, Nat.reduceSub, Array.replicate_succ, Array.replicate_zero, List.push_toArray, List.append_toArray, List.nil_append, List.cons_append]
    gi_wp2_with fail
    rw [← HW0.out]
    refine ⟨trivial, (callsIn_wide.2 FY.out).mono ?_⟩
    rintro e w' ⟨rfl, rfl⟩
    gi_wp2_with fail
    refine range_each (t := t) (rv := rv) (n := L.length) rfl HN0.out.row (by have := HK.out.1; omega)
      (fun k W => No D W t f rv P nx n L (fun k => fl L k) m ∧ Ow.Own w W [(w.heap.size + 2, #[.bool false], 4), (w.heap.size + 1, zO, 59), (w.heap.size, #[.int .i64 pa], 3)] ∧ ∀ j y, j < k → L[j]? = some y → ¬ (y.st = 1 ∧ y.pa = pa))
      (fun W => Below w.heap.size w W ∧ ∃ i x v, Fst (fun x => x.st = 1 ∧ x.pa = pa) L i x ∧ Has W (w.heap.size + 1) (oc x v) 59 ∧ Has W (w.heap.size + 2) #[.bool true] 4 ∧ Mine w.heap.size W v x.p.d)
      (fun k W hI => hI.1.q.cell 0 rfl)
      (fun k W W' hI hc => ⟨hI.1.calm hc, ⟨hc.below (by have := HSZ.out; omega) hI.2.1.1 (Nat.le_refl _), fun x hx => ⟨(hI.2.1.2 x hx).1, hc.has (hI.2.1.2 x hx).2⟩⟩, hI.2.2⟩)
      (fun W W' hI hc => by
        obtain ⟨hB, i, x, v, h1, h2, h3, h4⟩ := hI
        exact ⟨hc.below (by have := HSZ.out; omega) hB (Nat.le_refl _), i, x, v, h1, hc.has h2, hc.has h3, h4.calm hc⟩)
      ⟨HN0.out, HO0.out, fun j y hj => absurd hj (Nat.not_lt_zero _)⟩
      ?round ?done ?stop
    case round =>
      intro l k W hk hi
      gi_wp2
      refine ⟨trivial, fun W3 hI3 => ?_⟩
      obtain ⟨hN3, hO3, hF⟩ := hI3
      obtain ⟨x, hx⟩ : ∃ x, L[k]? = some x := ⟨_, List.getElem?_eq_getElem hk⟩
      obtain ⟨g, o, hp, he⟩ := hN3.place (k := k) hk
      rw [he]
      have FL := hidden (flies hN3 hp hx pa)
      have TD := hidden (told hN3 hp hx (HD.out x (List.mem_of_getElem? hx)))
      have y0 : W3.cell? ⟨w.heap.size, 0, none⟩ = some (.int .i64 pa) := hO3.cell (List.mem_cons_of_mem _ (List.mem_cons_of_mem _ (List.mem_cons_self ..))) 0 rfl
      have H3 := hidden (And.intro hN3 (And.intro hO3 hF))
      have HX := hidden hx
      clear hN3 hO3 hF hp hx he hk hi z0 z1 z2 z3 z4 z5 z6 z7 z8 z9 z10 z11 z12 z13 rz hb2 rb2
      gi_wp2_with fail
      by_cases hd : x.st = 1 ∧ x.pa = pa
      · rw [decide_eq_true hd] at FL
        have HDD := hidden hd
        clear hd
        refine ⟨trivial, (CallsIn.inRound l (callsIn_wide.2 FL.out)).mono ?_⟩
        rintro e w' ⟨rfl, rfl⟩
        gi_wp2_with fail
        refine ⟨trivial, (CallsIn.inRound l (callsIn_wide.2 TD.out)).mono ?_⟩
        rintro e w4 ⟨v, rfl, hm4, hB4⟩
        have hO4 := H3.out.2.1.later hB4
        obtain ⟨z0, z1, z2, z3, z4, z5, z6, z7, z8, z9, z10, z11, z12, z13⟩ := cells14 (hO4.has (b := w.heap.size + 1) (List.mem_cons_of_mem _ (List.mem_cons_self ..)))
        have rz := hO4.frozen (b := w.heap.size + 1) (List.mem_cons_of_mem _ (List.mem_cons_self ..))
        have hb2 : w4.cell? ⟨w.heap.size + 2, 0, none⟩ = some (.bool false) := hO4.cell (List.mem_cons_self ..) 0 rfl
        have rb2 := hO4.frozen (b := w.heap.size + 2) (List.mem_cons_self ..) 0
        obtain ⟨a4, cap4, hv4, _⟩ := hm4.row
        generalize hdl : x.p.d.length = dl at hv4
        have k1 := fun (v0 v1 v2 v3 v4 v5 v6 v7 v8 v9 v10 v11 v12 v13 : Value) => set14 (v0 := v0) (v1 := v1) (v2 := v2) (v3 := v3) (v4 := v4) (v5 := v5) (v6 := v6) (v7 := v7) (v8 := v8) (v9 := v9) (v10 := v10) (v11 := v11) (v12 := v12) (v13 := v13) (hO4.has (b := w.heap.size + 1) (List.mem_cons_of_mem _ (List.mem_cons_self ..)))
        have K1 := hidden k1
        have HO4 := hidden hO4
        have HM4 := hidden hm4
        have HB4 := hidden hB4
        have HV4 := hidden hv4
        subst hv4
        clear k1 hO4 hm4 hB4
        unfold ov
        gi_wp2
        obtain ⟨k2, k3⟩ := K1.out (.int .u32 x.ts) (.int .i64 x.pa) (.int .i64 x.ti) (.int .i64 x.se) (.int .i64 x.mi) (.bool x.qu) (.int .i64 x.st) (.int .u16 x.p.sm) (.int .u16 x.p.sn) (.int .u32 x.p.pr) (.bool x.p.un) (.slice a4 dl cap4) (.bool x.p.bg) (.bool x.p.en)
        have hs2 := HO4.out.has (b := w.heap.size + 2) (List.mem_cons_self ..)
        have hs3 := k3.has hs2 (fun e => by omega)
        have hmb : ∀ j, (Value.slice a4 dl cap4).ownBlock = some j → W3.heap.size ≤ j := fun j hj => by obtain ⟨cur, _, h2⟩ := HM4.out.obj hj; exact h2
        have hW3 : w.heap.size + 2 < W3.heap.size := H3.out.2.1.lt (List.mem_cons_self ..)
        have k4 := (k3.mono (G := fun j => j = w.heap.size + 1 ∨ j = w.heap.size + 2) (fun _ h => .inl h)).set (p := ⟨w.heap.size + 2, 0, none⟩) (.inr rfl) (.bool true)
        refine ⟨?_, ?_, k, x, .slice a4 dl cap4, ⟨HX.out, HDD.out, H3.out.2.2⟩, ?_, hs3.set 0 (.bool true), ?_⟩
        · exact KeepsFrom.trans (keeps_mod (F := fun _ => False) (Mod.of_below HB4.out) (fun j hj => hj.elim)) (keeps_mod k4 (fun j hj => .inl (by have := HSZ.out; omega)))
        · exact (H3.out.2.1.below.trans (HB4.out.mono (by omega))).trans (k4.below (by have := HB4.out.size; omega) (fun j hj => by omega))
        · refine (Mod.setCell (F := fun j => j = w.heap.size + 2) _ (p := ⟨w.heap.size + 2, 0, none⟩) rfl _).has k2 (fun e => by omega)
        · refine Mine.stay (base := w.heap.size) (w := w4) ⟨Ba.own_mono HM4.out.1 (fun j hj => by have := hmb j hj; omega), HM4.out.2⟩ k4 (fun j hj hf => by have := hmb j hj; omega)
      · rw [decide_eq_false hd] at FL
        have HDD := hidden hd
        clear hd
        refine ⟨trivial, (CallsIn.inRound l (callsIn_wide.2 FL.out)).mono ?_⟩
        rintro e w' ⟨rfl, rfl⟩
        gi_wp2
        refine ⟨KeepsFrom.refl _ _, H3.out.1, H3.out.2.1, fun j y hj hy => ?_⟩
        rcases Nat.lt_or_ge j k with h' | h'
        · exact H3.out.2.2 j y h' hy
        · obtain rfl : j = k := by omega
          rw [HX.out] at hy
          cases hy
          exact HDD.out
    case done =>
      rintro Dd W hD ⟨hN, hO, hF⟩ hdef
      obtain ⟨x, hx, hx2⟩ := HE.out
      obtain ⟨j, hj⟩ := List.mem_iff_getElem?.1 hx
      exact absurd hx2 (hF j x (List.getElem?_eq_some_iff.1 hj).1 hj)
    case stop =>
      rintro Dd W hD ⟨hB, i, x, v, h1, h2, h3, h4⟩ hdef
      have G := hidden (And.intro hB (And.intro h1 (And.intro h2 (And.intro h3 h4))))
      clear hB h1 h2 h3 h4
      gi_wp2
      refine ⟨by simp, .inl ⟨_, _, rfl, run_takeDeferred hdef, ?_⟩⟩
      have hc := Calm.put (B := W0.heap.size) (.deferred none) hD hdef rfl
      obtain ⟨g1, g2, g3, g4, g5⟩ := G.out
      refine ⟨.tuple #[ov x v, .bool true], res_cells rfl rfl rfl (hc.has g3) (hc.has g4), _, _, rfl, .inl ⟨i, x, v, g2, rfl, rfl, g5.calm hc⟩, hc.below (by have := HSZ.out; omega) g1 (Nat.le_refl _)⟩
  · have HE : Hid (∀ x ∈ L, ¬ (x.st = 1 ∧ x.pa = pa)) := fun x hx e => hz (HFZ.out.2 ⟨x, hx, e⟩)
    refine callsIn_of_wp_marks Try.func23 rfl trivial ?_ rfl
    simp only [Try.ntmps23, List.size_toArray, List.length_cons, List.length_nil, Nat.reduceAdd, Nat.reduceSub, Array.replicate_succ, Array.replicate_zero, List.push_toArray, List.append_toArray, List.nil_append, List.cons_append]
    gi_wp2_with fail
    rw [← HW0.out]
    refine ⟨trivial, (callsIn_wide.2 FY.out).mono ?_⟩
    rintro e w' ⟨rfl, rfl⟩
    gi_wp2
    obtain ⟨k2, k3⟩ := set14 (v0 := .int .u32 0) (v1 := .int .i64 0) (v2 := .int .i64 0) (v3 := .int .i64 0) (v4 := .int .i64 0) (v5 := .bool false) (v6 := .int .i64 0) (v7 := .int .u16 0) (v8 := .int .u16 0) (v9 := .int .u32 0) (v10 := .bool false) (v11 := .slice none 0 0) (v12 := .bool false) (v13 := .bool false) (HO0.out.has (b := w.heap.size + 1) (List.mem_cons_of_mem _ (List.mem_cons_self ..)))
    have hs3 := k3.has (HO0.out.has (b := w.heap.size + 2) (List.mem_cons_self ..)) (fun e => by omega)
    have k4 := (k3.mono (G := fun j => j = w.heap.size + 1 ∨ j = w.heap.size + 2) (fun _ h => .inl h)).set (p := ⟨w.heap.size + 2, 0, none⟩) (.inr rfl) (.bool false)
    refine ⟨.tuple #[ov zC (.slice none 0 0), .bool false], res_cells rfl rfl rfl ((Mod.setCell (F := fun j => j = w.heap.size + 2) _ (p := ⟨w.heap.size + 2, 0, none⟩) rfl _).has k2 (fun e => by omega)) (hs3.set 0 (.bool false)), _, _, rfl, .inr ⟨rfl, rfl, HE.out⟩, HO0.out.below.trans (k4.below (by have := HSZ.out; omega) (fun j hj => by omega))⟩
theorem first_no {p : Option Addr} (h : Un w p) (pa : Int) :
    Calls Try.prog 23 #[.pointer p, .int .i64 pa] w fun e w' => e = .returned (.tuple #[ov zC (.slice none 0 0), .bool false]) ∧ Below w.heap.size w w' := by
  refine (callsIn_wide (n := 10)).1 ?_
  obtain ⟨W0, hW0⟩ : ∃ W0, W0 = ((w.alloc (.cells #[.int .i64 pa] 3)).alloc (.cells zO 59)).alloc (.cells #[.bool false] 4) := ⟨_, rfl⟩
  have hO0 : Ow.Own w W0 [(w.heap.size + 2, #[.bool false], 4), (w.heap.size + 1, zO, 59), (w.heap.size, #[.int .i64 pa], 3)] := by
    have := (((Ow.Own.refl w).alloc #[.int .i64 pa] 3).alloc zO 59).alloc #[.bool false] 4
    simp only [World.size_alloc] at this
    rw [hW0]
    exact this
  have FY := hidden (flying_no (h.later hO0.below) pa)
  have hx0 : Boxed W0 w.heap.size 3 (.int .i64 pa) := hO0.has (List.mem_cons_of_mem _ (List.mem_cons_of_mem _ (List.mem_cons_self ..)))
  have d0 := hx0.cell
  have hsz : W0.heap.size = w.heap.size + 3 := by rw [hW0]; simp
  have HSZ := hidden hsz
  have HO0 := hidden hO0
  unfold zO at hW0
  have HW0 := hidden hW0
  have hb2 : W0.cell? ⟨w.heap.size + 2, 0, none⟩ = some (.bool false) := hO0.cell (List.mem_cons_self ..) 0 rfl
  have rb2 := hO0.frozen (b := w.heap.size + 2) (List.mem_cons_self ..) 0
  obtain ⟨z0, z1, z2, z3, z4, z5, z6, z7, z8, z9, z10, z11, z12, z13⟩ := cells14 (hO0.has (b := w.heap.size + 1) (List.mem_cons_of_mem _ (List.mem_cons_self ..)))
  have rz := hO0.frozen (b := w.heap.size + 1) (List.mem_cons_of_mem _ (List.mem_cons_self ..))
  clear h hx0 hW0 hO0 hsz
  refine callsIn_of_wp_marks Try.func23 rfl trivial ?_ rfl
  simp only [Try.ntmps23, List.size_toArray, List.length_cons, List.length_nil, Nat.reduceAdd, Nat.reduceSub, Array.replicate_succ, Array.replicate_zero, List.push_toArray, List.append_toArray, List.nil_append, List.cons_append]
  gi_wp2_with fail
  rw [← HW0.out]
  refine ⟨trivial, (callsIn_wide.2 FY.out).mono ?_⟩
  rintro e w' ⟨rfl, rfl⟩
  gi_wp2
  obtain ⟨k2, k3⟩ := set14 (v0 := .int .u32 0) (v1 := .int .i64 0) (v2 := .int .i64 0) (v3 := .int .i64 0) (v4 := .int .i64 0) (v5 := .bool false) (v6 := .int .i64 0) (v7 := .int .u16 0) (v8 := .int .u16 0) (v9 := .int .u32 0) (v10 := .bool false) (v11 := .slice none 0 0) (v12 := .bool false) (v13 := .bool false) (HO0.out.has (b := w.heap.size + 1) (List.mem_cons_of_mem _ (List.mem_cons_self ..)))
  have hs3 := k3.has (HO0.out.has (b := w.heap.size + 2) (List.mem_cons_self ..)) (fun e => by omega)
  have k4 := (k3.mono (G := fun j => j = w.heap.size + 1 ∨ j = w.heap.size + 2) (fun _ h => .inl h)).set (p := ⟨w.heap.size + 2, 0, none⟩) (.inr rfl) (.bool false)
  exact ⟨.tuple #[ov zC (.slice none 0 0), .bool false], res_cells rfl rfl rfl ((Mod.setCell (F := fun j => j = w.heap.size + 2) _ (p := ⟨w.heap.size + 2, 0, none⟩) rfl _).has k2 (fun e => by omega)) (hs3.set 0 (.bool false)), rfl, HO0.out.below.trans (k4.below (by have := HSZ.out; omega) (fun j hj => by omega))⟩
end
end Go.Proofs.Ytjceeckcfjjkkaa.Ob
