/-
  What the document's box tells: what is on its way, what is marked, the first chunk of a path.
  Conditions: the box lies in memory.
-/
import Derived.Test.YtjceeckcfjjkkaaOdA
namespace Go.Proofs.Ytjceeckcfjjkkaa.Ob
open Go.ChangeShapes Go.WideShapes Go.ChangeAt Go.RowKit
open Ba (hidden Has cell_lt heap_lt)
set_option linter.unusedVariables false
section
variable {D F G : Nat → Prop} {w w' : World} {r : Nat} {v : Value} {P : List CV} {n : Nat} {c : Int} {L : List Ch} {i g o : Nat} {x y : Ch}
theorem Cells.all14 {u : Value} (h : Cells w g o ⟨x, u⟩) :
    w.cell? ⟨g, o, none⟩ = some (.int .u32 x.ts) ∧ w.cell? ⟨g, o + 1, none⟩ = some (.int .i64 x.pa) ∧ w.cell? ⟨g, o + 2, none⟩ = some (.int .i64 x.ti) ∧ w.cell? ⟨g, o + 3, none⟩ = some (.int .i64 x.se) ∧ w.cell? ⟨g, o + 4, none⟩ = some (.int .i64 x.mi) ∧ w.cell? ⟨g, o + 5, none⟩ = some (.bool x.qu) ∧ w.cell? ⟨g, o + 6, none⟩ = some (.int .i64 x.st) ∧
    w.cell? ⟨g, o + 7, none⟩ = some (.int .u16 x.p.sm) ∧ w.cell? ⟨g, o + 8, none⟩ = some (.int .u16 x.p.sn) ∧ w.cell? ⟨g, o + 9, none⟩ = some (.int .u32 x.p.pr) ∧ w.cell? ⟨g, o + 10, none⟩ = some (.bool x.p.un) ∧ w.cell? ⟨g, o + 11, none⟩ = some u ∧ w.cell? ⟨g, o + 12, none⟩ = some (.bool x.p.bg) ∧ w.cell? ⟨g, o + 13, none⟩ = some (.bool x.p.en) :=
  ⟨h 0 _ rfl, h 1 _ rfl, h 2 _ rfl, h 3 _ rfl, h 4 _ rfl, h 5 _ rfl, h 6 _ rfl, h 7 _ rfl, h 8 _ rfl, h 9 _ rfl, h 10 _ rfl, h 11 _ rfl, h 12 _ rfl, h 13 _ rfl⟩
/-- a chunk in the document's row: where it lies -/
theorem Ro.open (h : Ro D w r v P n c L) (hi : L[i]? = some x) : ∃ g oo cap a1 c1, v = .slice (some ⟨g, oo, none⟩) L.length cap ∧ Cells w g (oo + i * 14) ⟨x, .slice (some a1) x.p.d.length c1⟩ ∧ By D w (.slice (some a1) x.p.d.length c1) x.p.d ∧ ∀ c, w.frozen? ⟨g, c, none⟩ = false := by
  have hl := (List.getElem?_eq_some_iff.1 hi).1
  obtain ⟨g, o, hp⟩ := h.rw_.place (i := i) (by rw [h.len]; exact hl)
  obtain ⟨u, hc, hb, _, hf⟩ := h.chunk hp hi
  obtain ⟨a, cap, hv, _⟩ := h.rw_.slice
  obtain ⟨oo, l, c2, e, rfl⟩ := hp
  rw [hv] at e
  cases e
  obtain ⟨g1, off, c1, rfl, _⟩ := hb.row
  rw [h.len] at hv
  exact ⟨g, oo, cap, _, c1, hv, hc, hb, hf⟩
/-- what is told of a chunk of the document's box, if there is one -/
def ToR (D : Nat → Prop) (w w' : World) (q : Ch → Prop) (L : List Ch) (u : Value) (b : Bool) : Prop :=
  (∃ i x v, Fst q L i x ∧ u = ov x v ∧ b = true ∧ By D w' v x.p.d) ∨ (u = .agg zO ∧ b = false ∧ ∀ x ∈ L, ¬ q x)
/-- the two are told -/
def ToE (D : Nat → Prop) (w w' : World) (q : Ch → Prop) (L : List Ch) (e : Ending) : Prop := ∃ u b, e = .returned (.tuple #[u, .bool b]) ∧ ToR D w w' q L u b ∧ Below w.heap.size w w'
theorem res_oct {fn : Func} {p u : Tmp} {tmps : Array Value} {w : World} {b1 : Nat} {x : Ch} {v : Value} (h : fn.results = #[.cell p 59, .tmp u]) (hp : tmps.getD p undef = .pointer (some ⟨b1, 0, none⟩)) (h1 : Has w b1 (oc x v) 59) :
    (results fn tmps).run Try.prog w = .ok (.tuple #[ov x v, tmps.getD u undef]) w := by
  have l1 := load14 h1
  rw [results_cell_tmp h, hp]
  simp only [asAddr, Sem.run_pure, Result.andThen_ok, l1]
  simp [go_sem, ov]
theorem Lk.part (hk : Lk n L) (s : Int) (k : Nat) : 0 ≤ sm (flF s) (L.take k) ∧ sm (flF s) (L.take k) ≤ 65601536 := by
  have h0 := hk.fl s
  have h1 := sm_mono (M := []) (L := L) (f := flF s) (fun x _ => flF_nn s x) k
  have h2 := (sm_bound (f := flF s) (B := 65536) (L.take k) (fun x hx => ⟨flF_nn s x, by have := (hk.2 x (List.mem_of_mem_take hx)).1; have := flF_le s x; unfold sz at this; omega⟩)).1
  unfold Ob.fl at h0
  omega
set_option maxRecDepth 8000 in
set_option maxHeartbeats 1000000 in
theorem r_flying (h : Ro D w r v P n c L) (hk : Lk n L) (s : Int) : Calls Try.prog 39 #[.pointer (some ⟨r, 0, none⟩), .int .i64 s] w fun e w' => e = .returned (.int .i64 (fl L s)) ∧ Below w.heap.size w w' := by
  have HP := hidden (hk.part s)
  have HK := hidden hk
  have HH := hidden h
  obtain ⟨aa, ca, hv, _⟩ := h.rw_.slice
  rw [h.len] at hv
  obtain ⟨z, hz⟩ : ∃ z, z = L.length := ⟨_, rfl⟩
  have HZ := hidden hz
  rw [← hz] at hv
  have hz1 : z ≤ 1001 := by rw [hz]; exact hk.1
  have HV := hidden hv
  clear h hk hv hz
  go_enter Try.func39, Try.ntmps39
  go_wp2_with fail
  go_loopw [5, 6] (fun d d' X => ∃ k : Nat, d = .int .i64 (sm (flF s) (L.take k)) ∧ d' = .int .i64 (k : Int) ∧ k ≤ z ∧ Hid (Below w.heap.size w X)) (fun d d' X => z - (intOf d').toNat)
  case atStart => exact ⟨0, rfl, rfl, Nat.zero_le _, Below.refl _ _⟩
  case round =>
    obtain ⟨k, rfl, rfl, hkz, HI⟩ := hrel
    have hR := HH.out.later HI.out
    have c2 := hR.q.cell 2 rfl
    rw [HV.out] at c2
    have hwk : IntKind.i64.wrap ((k : Int) + 1) = (k : Int) + 1 := by rw [IntKind.wrap_i64]; omega
    by_cases hlt : (k : Int) < (z : Int)
    · obtain ⟨x, hx⟩ : ∃ x, L[k]? = some x := ⟨_, List.getElem?_eq_getElem (by rw [← HZ.out]; omega)⟩
      obtain ⟨g, oo, cap, a1, c1, e, hc, hb, hf⟩ := hR.open hx
      rw [HV.out, ← HZ.out] at e
      cases e
      obtain ⟨m0, m1, m2, m3, m4, m5, m6, m7, m8, m9, m10, m11, m12, m13⟩ := hc.all14
      have hs := sm_take (f := flF s) hx
      have hb1 := HP.out k
      have hb2 := HP.out (k + 1)
      have SZ := hidden (r_size x (u := .slice (some a1) x.p.d.length c1) ⟨_, _, rfl⟩ wr)
      rw [hs] at hb2
      have HS := hidden hs
      clear hc hb hf hR hx hs
      generalize sm (flF s) (L.take k) = A at *
      by_cases h1 : x.st = 1
      · rw [h1] at m6
        by_cases h2 : x.pa = s
        · have HF : flF s x = sz x := by unfold flF; rw [if_pos ⟨h1, h2⟩]
          rw [HF] at hb2 HS
          rw [h2] at m1
          have hwa : IntKind.i64.wrap (A + sz x) = A + sz x := by rw [IntKind.wrap_i64]; omega
          have SZ1 := SZ.out
          unfold ov at SZ1
          rw [h1, h2] at SZ1
          have SZ := hidden SZ1
          clear HF SZ1
          go_wp2_with fail
          refine Calls.mono SZ.out ?_
          rintro e X ⟨rfl, hB⟩
          go_wp2
          go_roundw
          case rel => exact ⟨k + 1, by rw [HS.out], by simp, by omega, HI.out.trans (hB.mono HI.out.size)⟩
          case measure => simp only [intOf]; omega
        · have HF : flF s x = 0 := by unfold flF; rw [if_neg (fun e => h2 e.2)]
          rw [HF] at hb2 HS
          have h2b : (x.pa == s) = false := by simp [h2]
          clear HF
          go_wp2
          go_roundw
          case rel => exact ⟨k + 1, by rw [HS.out, Int.add_zero], by simp, by omega, HI.out⟩
          case measure => simp only [intOf]; omega
      · have HF : flF s x = 0 := by unfold flF; rw [if_neg (fun e => h1 e.1)]
        rw [HF] at hb2 HS
        have h1b : (x.st == 1) = false := by simp [h1]
        clear HF
        go_wp2
        go_roundw
        case rel => exact ⟨k + 1, by rw [HS.out, Int.add_zero], by simp, by omega, HI.out⟩
        case measure => simp only [intOf]; omega
    · obtain rfl : k = z := by omega
      have hnl : ¬ ((k : Int) < (k : Int)) := by omega
      have HE : sm (flF s) (L.take k) = fl L s := by rw [HZ.out, List.take_length]; rfl
      rw [HE]
      clear hR
      go_wp2
      go_ret
      exact ⟨rfl, HI.out⟩
set_option maxRecDepth 8000 in
set_option maxHeartbeats 1000000 in
theorem r_first (h : Ro D w r v P n c L) (hk : Lk n L) (s : Int) : Calls Try.prog 38 #[.pointer (some ⟨r, 0, none⟩), .int .i64 s] w fun e w' => ToE D w w' (fun x => x.st = 1 ∧ x.pa = s) L e := by
  have HH := hidden h
  obtain ⟨aa, ca, hv, _⟩ := h.rw_.slice
  rw [h.len] at hv
  obtain ⟨z, hz⟩ : ∃ z, z = L.length := ⟨_, rfl⟩
  have HZ := hidden hz
  rw [← hz] at hv
  have hz1 : z ≤ 1001 := by rw [hz]; exact hk.1
  have HV := hidden hv
  obtain ⟨W0, hW0⟩ : ∃ W0, W0 = w.alloc (.cells zO 59) := ⟨_, rfl⟩
  have hB0 : Below w.heap.size w W0 := by rw [hW0]; exact (Below.refl _ w).alloc (Nat.le_refl _) _
  have hN0 : Has W0 w.heap.size zO 59 := by rw [hW0]; exact Has.new _ _ _
  have HB0 := hidden hB0
  have HN0 := hidden hN0
  have hsz : W0.heap.size = w.heap.size + 1 := by rw [hW0]; simp
  have HSZ := hidden hsz
  unfold zO at hW0
  have HW0 := hidden hW0
  clear h hk hv hz hB0 hN0 hsz hW0
  go_enter Try.func38, Try.ntmps38
  go_wp2_with fail
  rw [← HW0.out]
  go_loopw [6] (fun d X => ∃ k : Nat, d = .int .i64 (k : Int) ∧ k ≤ z ∧ X = W0 ∧ Hid (∀ j y, j < k → L[j]? = some y → ¬ (y.st = 1 ∧ y.pa = s))) (fun d X => z - (intOf d).toNat)
  case atStart => exact ⟨0, rfl, Nat.zero_le _, rfl, fun j y hj => absurd hj (Nat.not_lt_zero _)⟩
  case round =>
    obtain ⟨k, rfl, hkz, rfl, HI⟩ := hrel
    have hR := HH.out.later HB0.out
    have c2 := hR.q.cell 2 rfl
    rw [HV.out] at c2
    have hwk : IntKind.i64.wrap ((k : Int) + 1) = (k : Int) + 1 := by rw [IntKind.wrap_i64]; omega
    have hfz := HN0.out.frozen
    obtain ⟨z0, z1, z2, z3, z4, z5, z6, z7, z8, z9, z10, z11, z12, z13⟩ := cells14 HN0.out
    by_cases hlt : (k : Int) < (z : Int)
    · obtain ⟨x, hx⟩ : ∃ x, L[k]? = some x := ⟨_, List.getElem?_eq_getElem (by rw [← HZ.out]; omega)⟩
      obtain ⟨g, oo, cap, a1, c1, e, hc, hb, hf⟩ := hR.open hx
      rw [HV.out, ← HZ.out] at e
      cases e
      obtain ⟨m0, m1, m2, m3, m4, m5, m6, m7, m8, m9, m10, m11, m12, m13⟩ := hc.all14
      have HX := hidden hx
      have HBY := hidden hb
      clear hc hb hf hR hx
      by_cases h1 : x.st = 1
      · have H1 := hidden h1
        have h1b : (x.st == 1) = true := by simp [h1]
        clear h1
        by_cases h2 : x.pa = s
        · have H2 := hidden h2
          have h2b : (x.pa == s) = true := by simp [h2]
          clear h2
          go_wp2
          have S14 := set14 (v0 := .int .u32 x.ts) (v1 := .int .i64 x.pa) (v2 := .int .i64 x.ti) (v3 := .int .i64 x.se) (v4 := .int .i64 x.mi) (v5 := .bool x.qu) (v6 := .int .i64 x.st) (v7 := .int .u16 x.p.sm) (v8 := .int .u16 x.p.sn) (v9 := .int .u32 x.p.pr) (v10 := .bool x.p.un) (v11 := .slice (some a1) x.p.d.length c1) (v12 := .bool x.p.bg) (v13 := .bool x.p.en) HN0.out
          refine bodyPost_ret (res_oct (x := x) (v := .slice (some a1) x.p.d.length c1) rfl rfl S14.1) rfl ⟨_, _, rfl, .inl ⟨k, x, _, ⟨HX.out, ⟨H1.out, H2.out⟩, HI.out⟩, rfl, rfl, HBY.out.stay S14.2 (fun j cur _ hh e => by subst e; exact hh.ne HN0.out (by decide) rfl)⟩, HB0.out.trans (S14.2.below HB0.out.size (fun j hj => by omega))⟩
        · have h2b : (x.pa == s) = false := by simp [h2]
          have H2 := hidden h2
          clear h2 z0 z1 z2 z3 z4 z5 z6 z7 z8 z9 z10 z11 z12 z13
          go_wp2
          go_roundw
          case rel => exact ⟨k + 1, by simp, by omega, trivial, fun j y hj hy hq => by
            rcases Nat.lt_or_ge j k with e | e
            · exact HI.out j y e hy hq
            · obtain rfl : j = k := by omega
              rw [HX.out] at hy
              cases hy
              exact H2.out hq.2⟩
          case measure => simp only [intOf]; omega
      · have h1b : (x.st == 1) = false := by simp [h1]
        have H1 := hidden h1
        clear h1 z0 z1 z2 z3 z4 z5 z6 z7 z8 z9 z10 z11 z12 z13
        go_wp2
        go_roundw
        case rel => exact ⟨k + 1, by simp, by omega, trivial, fun j y hj hy hq => by
          rcases Nat.lt_or_ge j k with e | e
          · exact HI.out j y e hy hq
          · obtain rfl : j = k := by omega
            rw [HX.out] at hy
            cases hy
            exact H1.out hq.1⟩
        case measure => simp only [intOf]; omega
    · obtain rfl : k = z := by omega
      have hnl : ¬ ((k : Int) < (k : Int)) := by omega
      clear hR
      go_wp2
      have S14 := set14 (v0 := .int .u32 0) (v1 := .int .i64 0) (v2 := .int .i64 0) (v3 := .int .i64 0) (v4 := .int .i64 0) (v5 := .bool false) (v6 := .int .i64 0) (v7 := .int .u16 0) (v8 := .int .u16 0) (v9 := .int .u32 0) (v10 := .bool false) (v11 := .slice none 0 0) (v12 := .bool false) (v13 := .bool false) HN0.out
      refine bodyPost_ret (res_oct (x := zC) (v := .slice none 0 0) rfl rfl S14.1) rfl ⟨_, _, rfl, .inr ⟨rfl, rfl, fun x hx hq => ?_⟩, HB0.out.trans (S14.2.below HB0.out.size (fun j hj => by omega))⟩
      obtain ⟨j, hj, he⟩ := List.getElem_of_mem hx
      exact HI.out j x (by rw [HZ.out]; exact hj) (by rw [List.getElem?_eq_getElem hj, he]) hq
end
end Go.Proofs.Ytjceeckcfjjkkaa.Ob
