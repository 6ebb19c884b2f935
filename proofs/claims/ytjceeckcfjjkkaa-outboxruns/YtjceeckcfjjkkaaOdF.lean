/-
  The document's box: a marked chunk is sent again.
  Conditions: the box lies in memory.
-/
import Derived.Test.YtjceeckcfjjkkaaOdE
namespace Go.Proofs.Ytjceeckcfjjkkaa.Ob
open Go.ChangeShapes Go.WideShapes Go.ChangeAt Go.RowKit
open Ba (hidden Has cell_lt heap_lt)
set_option linter.unusedVariables false
/-- what is told where a marked chunk is sent again, or none is marked -/
def AgE (D : Nat → Prop) (w w' : World) (r : Nat) (v : Value) (n : Nat) (c : Int) (L : List Ch) (pa now : Int) (e : Ending) : Prop :=
  (∃ i x u P', Fst (fun x => x.st = 2) L i x ∧ e = .returned (.tuple #[ov (agC x pa now) u, .bool true, .int .i64 0]) ∧ By D w' u x.p.d ∧ Ro D w' r v P' n c (L.set i (agC x pa now)) ∧ Mod (FD r v) w w') ∨
  (e = .returned (.tuple #[ov zC (.slice none 0 0), .bool false, .int .i64 0]) ∧ (∀ x ∈ L, x.st ≠ 2) ∧ Below w.heap.size w w')
section
variable {D F G Q : Nat → Prop} {w w' : World} {r : Nat} {v : Value} {P : List CV} {n : Nat} {c : Int} {q : Rq} {L : List Ch} {i g o : Nat} {x y : Ch} {gs : List (Int × Int)}
theorem zero14 {b : Nat} (h : Has w b zO 59) : Has ((((((((((((((w.setCell ⟨b, 0, none⟩ (.int .u32 0)).setCell ⟨b, 1, none⟩ (.int .i64 0)).setCell ⟨b, 2, none⟩ (.int .i64 0)).setCell ⟨b, 3, none⟩ (.int .i64 0)).setCell ⟨b, 4, none⟩ (.int .i64 0)).setCell ⟨b, 5, none⟩ (.bool false)).setCell ⟨b, 6, none⟩ (.int .i64 0)).setCell ⟨b, 7, none⟩ (.int .u16 0)).setCell ⟨b, 8, none⟩ (.int .u16 0)).setCell ⟨b, 9, none⟩ (.int .u32 0)).setCell ⟨b, 10, none⟩ (.bool false)).setCell ⟨b, 11, none⟩ (.slice none 0 0)).setCell ⟨b, 12, none⟩ (.bool false)).setCell ⟨b, 13, none⟩ (.bool false)) b (oc zC (.slice none 0 0)) 59 ∧ Mod (fun k => k = b) w ((((((((((((((w.setCell ⟨b, 0, none⟩ (.int .u32 0)).setCell ⟨b, 1, none⟩ (.int .i64 0)).setCell ⟨b, 2, none⟩ (.int .i64 0)).setCell ⟨b, 3, none⟩ (.int .i64 0)).setCell ⟨b, 4, none⟩ (.int .i64 0)).setCell ⟨b, 5, none⟩ (.bool false)).setCell ⟨b, 6, none⟩ (.int .i64 0)).setCell ⟨b, 7, none⟩ (.int .u16 0)).setCell ⟨b, 8, none⟩ (.int .u16 0)).setCell ⟨b, 9, none⟩ (.int .u32 0)).setCell ⟨b, 10, none⟩ (.bool false)).setCell ⟨b, 11, none⟩ (.slice none 0 0)).setCell ⟨b, 12, none⟩ (.bool false)).setCell ⟨b, 13, none⟩ (.bool false)) := set14 h
set_option maxRecDepth 8000 in
set_option maxHeartbeats 2000000 in
theorem r_again (h : Ro D w r v P n c L) (hk : Lk n L) (hd : ∀ x ∈ L, 0 ≤ x.ti ∧ x.ti ≤ 2000) (pa now : Int) (hpa : 0 ≤ pa ∧ pa < (n : Int)) (hnow : 0 ≤ now ∧ now ≤ 1099511627776) :
    Calls Try.prog 30 #[.pointer (some ⟨r, 0, none⟩), .int .i64 pa, .int .i64 now] w fun e w' => AgE D w w' r v n c L pa now e := by
  obtain ⟨W0, hW0⟩ : ∃ W0, W0 = w.alloc (.cells zO 59) := ⟨_, rfl⟩
  have hB0 : Below w.heap.size w W0 := by rw [hW0]; exact (Below.refl _ w).alloc (Nat.le_refl _) _
  have hN0 : Has W0 w.heap.size zO 59 := by rw [hW0]; exact Has.new _ _ _
  have HAS := hidden (r_has (h.later hB0) pa)
  rw [decide_eq_true hpa] at HAS
  have TI := hidden (r_time now W0)
  rw [decide_eq_true hnow] at TI
  have HH := hidden (h.later hB0)
  have HLT : Hid (∀ k, FD r v k → k < w.heap.size) := fun k hk => h.lt hk
  have HD := hidden hd
  obtain ⟨aa, ca, hv, _⟩ := h.rw_.slice
  rw [h.len] at hv
  obtain ⟨z, hz⟩ : ∃ z, z = L.length := ⟨_, rfl⟩
  have HZ := hidden hz
  rw [← hz] at hv
  have hz1 : z ≤ 1001 := by rw [hz]; exact hk.1
  have HV := hidden hv
  have HB0 := hidden hB0
  have HN0 := hidden hN0
  have hsz : W0.heap.size = w.heap.size + 1 := by rw [hW0]; simp
  have HSZ := hidden hsz
  unfold zO at hW0
  have HW0 := hidden hW0
  clear h hk hv hz hd hpa hnow hB0 hN0 hsz hW0
  go_enter Try.func30, Try.ntmps30
  go_wp2_with fail
  rw [← HW0.out]
  refine Calls.mono HAS.out ?_
  rintro e w' ⟨rfl, rfl⟩
  go_wp2_with fail
  refine Calls.mono TI.out ?_
  rintro e w' ⟨rfl, rfl⟩
  go_wp2_with fail
  go_loopw [9] (fun d X => ∃ k : Nat, d = .int .i64 (k : Int) ∧ k ≤ z ∧ X = W0 ∧ Hid (∀ j y, j < k → L[j]? = some y → ¬ (y.st = 2))) (fun d X => z - (intOf d).toNat)
  case atStart => exact ⟨0, rfl, Nat.zero_le _, rfl, fun j y hj => absurd hj (Nat.not_lt_zero _)⟩
  case round =>
    obtain ⟨k, rfl, hkz, rfl, HI⟩ := hrel
    have c2 := HH.out.q.cell 2 rfl
    rw [HV.out] at c2
    have hwk : IntKind.i64.wrap ((k : Int) + 1) = (k : Int) + 1 := by rw [IntKind.wrap_i64]; omega
    have hfz := HN0.out.frozen
    obtain ⟨z0, z1, z2, z3, z4, z5, z6, z7, z8, z9, z10, z11, z12, z13⟩ := cells14 HN0.out
    by_cases hlt : (k : Int) < (z : Int)
    · obtain ⟨x, hx⟩ : ∃ x, L[k]? = some x := ⟨_, List.getElem?_eq_getElem (by rw [← HZ.out]; omega)⟩
      obtain ⟨g, oo, cap, a1, c1, e, hc, hb, hf⟩ := HH.out.open hx
      have hpl : Pl v k g (oo + k * 14) := ⟨oo, _, _, e, rfl⟩
      rw [HV.out, ← HZ.out] at e
      cases e
      obtain ⟨m0, m1, m2, m3, m4, m5, m6, m7, m8, m9, m10, m11, m12, m13⟩ := hc.all14
      have HX := hidden (And.intro hx hpl)
      have hti := HD.out x (List.mem_of_getElem? hx)
      clear hc hb hx hpl
      by_cases h1 : x.st = 2
      · have h1b : (x.st == 2) = true := by simp [h1]
        have H1 := hidden h1
        clear h1 z0 z1 z2 z3 z4 z5 z6 z7 z8 z9 z10 z11 z12 z13 hfz
        have hwt : IntKind.i64.wrap (x.ti + 1) = x.ti + 1 := by rw [IntKind.wrap_i64]; omega
        obtain ⟨X2, hX2⟩ : ∃ X2, X2 = ((((wr.setCell ⟨g, oo + k * 14 + 6, none⟩ (.int .i64 1)).setCell ⟨g, oo + k * 14 + 1, none⟩ (.int .i64 pa)).setCell ⟨g, oo + k * 14 + 3, none⟩ (.int .i64 now)).setCell ⟨g, oo + k * 14 + 4, none⟩ (.int .i64 0)).setCell ⟨g, oo + k * 14 + 2, none⟩ (.int .i64 (x.ti + 1)) := ⟨_, rfl⟩
        have hkl := (List.getElem?_eq_some_iff.1 HX.out.1).1
        obtain ⟨P1, hR1⟩ := HH.out.setC HX.out.2 HX.out.1 (cc_ := 6) (u := .int .i64 1) (y := { x with st := 1 }) (by decide) (fun v => rfl) rfl
        obtain ⟨P2, hR2⟩ := hR1.setC HX.out.2 (List.getElem?_set_self hkl) (cc_ := 1) (u := .int .i64 pa) (y := { x with st := 1, pa := pa }) (by decide) (fun v => rfl) rfl
        obtain ⟨P3, hR3⟩ := hR2.setC HX.out.2 (List.getElem?_set_self (by simpa using hkl)) (cc_ := 3) (u := .int .i64 now) (y := { x with st := 1, pa := pa, se := now }) (by decide) (fun v => rfl) rfl
        obtain ⟨P4, hR4⟩ := hR3.setC HX.out.2 (List.getElem?_set_self (by simpa using hkl)) (cc_ := 4) (u := .int .i64 0) (y := { x with st := 1, pa := pa, se := now, mi := 0 }) (by decide) (fun v => rfl) rfl
        obtain ⟨P5, hR5⟩ := hR4.setC HX.out.2 (List.getElem?_set_self (by simpa using hkl)) (cc_ := 2) (u := .int .i64 (x.ti + 1)) (y := agC x pa now) (by decide) (fun v => rfl) rfl
        simp only [List.set_set] at hR5
        rw [← hX2] at hR5
        have ho := HX.out.2.own
        have hm2 : Mod (FD r v) wr X2 := by
          rw [hX2]
          exact ((((Mod.setCell wr (p := ⟨g, oo + k * 14 + 6, none⟩) (.inr ho) _).trans (Mod.setCell _ (p := ⟨g, oo + k * 14 + 1, none⟩) (.inr ho) _) (fun j hj => .inl hj)).trans (Mod.setCell _ (p := ⟨g, oo + k * 14 + 3, none⟩) (.inr ho) _) (fun j hj => .inl hj)).trans (Mod.setCell _ (p := ⟨g, oo + k * 14 + 4, none⟩) (.inr ho) _) (fun j hj => .inl hj)).trans (Mod.setCell _ (p := ⟨g, oo + k * 14 + 2, none⟩) (.inr ho) _) (fun j hj => .inl hj)
        have HX2 := hidden hX2
        have HM2 := hidden hm2
        have HR5 := hidden hR5
        clear hX2 hR1 hR2 hR3 hR4 hR5 hm2 ho hkl
        go_upto_region 12 with fail
        rw [← HX2.out]
        clear m0 m1 m2 m3 m4 m5 m6 m7 m8 m9 m10 m11 m12 m13 c2 hf
        obtain ⟨x', hx'⟩ : ∃ x', x' = agC x pa now := ⟨_, rfl⟩
        have HR6 : Hid (Ro D X2 r v P5 n c (L.set k x')) := by rw [hx']; exact HR5.out
        have hx3 : (L.set k x')[k]? = some x' := List.getElem?_set_self (List.getElem?_eq_some_iff.1 HX.out.1).1
        have HXE : Hid (x' = agC x pa now) := hx'
        obtain ⟨g3, o3, c3, a3, d3, e3, hc3, hb3, _⟩ := HR6.out.open hx3
        rw [List.length_set, HV.out, ← HZ.out] at e3
        cases e3
        obtain ⟨m0, m1, m2, m3, m4, m5, m6, m7, m8, m9, m10, m11, m12, m13⟩ := hc3.all14
        have hN2 : Has X2 w.heap.size zO 59 := HM2.out.has HN0.out (fun e => by have := HLT.out _ e; omega)
        have HN2 := hidden hN2
        have HBY := hidden hb3
        obtain ⟨z0, z1, z2, z3, z4, z5, z6, z7, z8, z9, z10, z11, z12, z13⟩ := cells14 hN2
        have hfz := hN2.frozen
        clear hc3 hx3 hx' hN2 hb3
        go_wp2
        have S14 := set14 (v0 := .int .u32 x'.ts) (v1 := .int .i64 x'.pa) (v2 := .int .i64 x'.ti) (v3 := .int .i64 x'.se) (v4 := .int .i64 x'.mi) (v5 := .bool x'.qu) (v6 := .int .i64 x'.st) (v7 := .int .u16 x'.p.sm) (v8 := .int .u16 x'.p.sn) (v9 := .int .u32 x'.p.pr) (v10 := .bool x'.p.un) (v11 := .slice (some a3) x'.p.d.length d3) (v12 := .bool x'.p.bg) (v13 := .bool x'.p.en) HN2.out
        have hM3 : Mod (FD r v) w _ := ((Mod.of_below (F := FD r v) HB0.out).trans HM2.out (fun j hj => .inl hj)).trans S14.2 (fun j hj => .inr (by omega))
        refine bodyPost_ret (res_ctt (x := x') (v := .slice (some a3) x'.p.d.length d3) rfl rfl S14.1) rfl (.inl ⟨k, x, .slice (some a3) x'.p.d.length d3, P5, ⟨HX.out.1, H1.out, HI.out⟩, by rw [← HXE.out]; rfl, ?_, ?_, hM3⟩)
        · have h2 := HBY.out.stay S14.2 (fun j cur _ hh e => by subst e; exact hh.ne HN2.out (by decide) rfl)
          have hd2 : x'.p.d = x.p.d := by rw [HXE.out]; rfl
          rw [← hd2]
          exact h2
        · have h2 := HR6.out.stay S14.2 (fun j hj e => by have := HLT.out j hj; omega) (fun j cur _ hh e => by subst e; exact hh.ne HN2.out (by decide) rfl)
          rw [← HXE.out]
          exact h2
      · have h1b : (x.st == 2) = false := by simp [h1]
        have H1 := hidden h1
        clear h1 z0 z1 z2 z3 z4 z5 z6 z7 z8 z9 z10 z11 z12 z13
        go_wp2
        go_roundw
        case rel => exact ⟨k + 1, by simp, by omega, trivial, fun j y hj hy hq => by
          rcases Nat.lt_or_ge j k with e | e
          · exact HI.out j y e hy hq
          · obtain rfl : j = k := by omega
            rw [HX.out.1] at hy
            cases hy
            exact H1.out hq⟩
        case measure => simp only [intOf]; omega
    · obtain rfl : k = z := by omega
      have hnl : ¬ ((k : Int) < (k : Int)) := by omega
      go_wp2
      have S14 := zero14 HN0.out
      refine bodyPost_ret (res_ctt (x := zC) (v := .slice none 0 0) rfl rfl S14.1) rfl (.inr ⟨rfl, fun x hx hq => ?_, HB0.out.trans (S14.2.below HB0.out.size (fun j hj => by omega))⟩)
      obtain ⟨j, hj, he⟩ := List.getElem_of_mem hx
      exact HI.out j x (by rw [HZ.out]; exact hj) (by rw [List.getElem?_eq_getElem hj, he]) hq
theorem r_again_path (h : Ro D w r v P n c L) (pa now : Int) (hpa : ¬ (0 ≤ pa ∧ pa < (n : Int))) :
    Calls Try.prog 30 #[.pointer (some ⟨r, 0, none⟩), .int .i64 pa, .int .i64 now] w fun e w' => e = .returned (.tuple #[ov zC (.slice none 0 0), .bool false, .int .i64 90]) ∧ Below w.heap.size w w' := by
  obtain ⟨W0, hW0⟩ : ∃ W0, W0 = w.alloc (.cells zO 59) := ⟨_, rfl⟩
  have hB0 : Below w.heap.size w W0 := by rw [hW0]; exact (Below.refl _ w).alloc (Nat.le_refl _) _
  have hN0 : Has W0 w.heap.size zO 59 := by rw [hW0]; exact Has.new _ _ _
  have HAS := hidden (r_has (h.later hB0) pa)
  rw [decide_eq_false hpa] at HAS
  have HB0 := hidden hB0
  have HN0 := hidden hN0
  unfold zO at hW0
  have HW0 := hidden hW0
  obtain ⟨z0, z1, z2, z3, z4, z5, z6, z7, z8, z9, z10, z11, z12, z13⟩ := cells14 hN0
  have hfz := hN0.frozen
  clear h hpa hB0 hN0 hW0
  go_enter Try.func30, Try.ntmps30
  go_wp2_with fail
  rw [← HW0.out]
  refine Calls.mono HAS.out ?_
  rintro e w' ⟨rfl, rfl⟩
  go_wp2
  have S14 := zero14 HN0.out
  exact bodyPost_ret (res_ctt (x := zC) (v := .slice none 0 0) rfl rfl S14.1) rfl ⟨rfl, HB0.out.trans (S14.2.below HB0.out.size (fun j hj => by omega))⟩
theorem r_again_time (h : Ro D w r v P n c L) (pa now : Int) (hpa : 0 ≤ pa ∧ pa < (n : Int)) (hnow : ¬ (0 ≤ now ∧ now ≤ 1099511627776)) :
    Calls Try.prog 30 #[.pointer (some ⟨r, 0, none⟩), .int .i64 pa, .int .i64 now] w fun e w' => e = .returned (.tuple #[ov zC (.slice none 0 0), .bool false, .int .i64 1]) ∧ Below w.heap.size w w' := by
  obtain ⟨W0, hW0⟩ : ∃ W0, W0 = w.alloc (.cells zO 59) := ⟨_, rfl⟩
  have hB0 : Below w.heap.size w W0 := by rw [hW0]; exact (Below.refl _ w).alloc (Nat.le_refl _) _
  have hN0 : Has W0 w.heap.size zO 59 := by rw [hW0]; exact Has.new _ _ _
  have HAS := hidden (r_has (h.later hB0) pa)
  rw [decide_eq_true hpa] at HAS
  have TI := hidden (r_time now W0)
  rw [decide_eq_false hnow] at TI
  have HB0 := hidden hB0
  have HN0 := hidden hN0
  unfold zO at hW0
  have HW0 := hidden hW0
  obtain ⟨z0, z1, z2, z3, z4, z5, z6, z7, z8, z9, z10, z11, z12, z13⟩ := cells14 hN0
  have hfz := hN0.frozen
  clear h hpa hnow hB0 hN0 hW0
  go_enter Try.func30, Try.ntmps30
  go_wp2_with fail
  rw [← HW0.out]
  refine Calls.mono HAS.out ?_
  rintro e w' ⟨rfl, rfl⟩
  go_wp2_with fail
  refine Calls.mono TI.out ?_
  rintro e w' ⟨rfl, rfl⟩
  go_wp2
  have S14 := zero14 HN0.out
  exact bodyPost_ret (res_ctt (x := zC) (v := .slice none 0 0) rfl rfl S14.1) rfl ⟨rfl, HB0.out.trans (S14.2.below HB0.out.size (fun j hj => by omega))⟩
end
end Go.Proofs.Ytjceeckcfjjkkaa.Ob
