/-
  Paths: the document's.
  Conditions: as at each lemma.
-/
import Derived.Test.YtfofcaedblhegaaPaB
namespace Go.Proofs.Ytfofcaedblhegaa.Pa
open Go.ChangeShapes Go.WideShapes Go.ChangeAt Go.RowKit
open Ba (hidden Has Only)
open Ow (Own)
set_option linter.unusedVariables false

section
variable {w : World} {b : Nat} {s : S}
theorem rstate (h : Rf w b s) : Calls Try.prog 33 #[.pointer (some ⟨b, 0, none⟩)] w fun e w' => e = .returned (.int .i64 (stI s)) ∧ Below w.heap.size w w' := by
  obtain ⟨er, fl, mx, nu, op, bg, pa, us⟩ := s
  obtain ⟨⟨c0, c1, c2, c3, _⟩, hb⟩ := h.cells
  simp only [stI]
  clear h
  by_cases h1 : mx < er
  · rw [if_pos h1]
    go_enter Try.func33, Try.ntmps33
    go_wp2
    go_quiet (fail)
    go_wp2
    go_ret
    exact ⟨rfl, below_drewN _ _⟩
  · rw [if_neg h1]
    by_cases h2 : fl < er
    · rw [if_pos h2]
      go_enter Try.func33, Try.ntmps33
      go_wp2
      go_quiet (fail)
      go_wp2
      go_quiet (fail)
      go_wp2
      go_ret
      exact ⟨rfl, below_drewN2 _ _ _⟩
    · rw [if_neg h2]
      go_enter Try.func33, Try.ntmps33
      go_wp2
      go_quiet (fail)
      go_wp2
      go_quiet (fail)
      go_wp2
      go_ret
      exact ⟨rfl, below_drewN2 _ _ _⟩
theorem Rf.upd (h : Rf w b s) (n : Int) : Rf (w.setCell ⟨b, 3, none⟩ (.int .i64 n)) b (setE s n) := Has.set h 3 (.int .i64 n)
theorem rset3 (h : Rf w b s) : w.cell? ⟨b, 3, none⟩ = some (.int .i64 s.er) ∧ w.cell? ⟨b, 0, none⟩ = some (.int .i64 s.mx) ∧ w.frozen? ⟨b, 3, none⟩ = false ∧ b < w.heap.size := ⟨Has.cell h 3 rfl, Has.cell h 0 rfl, Has.frozen h 3, Has.lt h⟩
theorem fail_le (h : s.er ≤ s.mx) : failS s = setE s (s.er + 1) := by unfold failS; rw [show min s.er s.mx = s.er by omega]
theorem fail_gt (hI : Inv s) (h : ¬ s.er ≤ s.mx) : failS s = s := by
  have := hI.er
  unfold failS setE
  rw [show min s.er s.mx + 1 = s.er by omega]
theorem rfail (h : Rf w b s) (hI : Inv s) : Calls Try.prog 26 #[.pointer (some ⟨b, 0, none⟩)] w fun e w' => e = .returned (.bool (chg s (failS s))) ∧ Rf w' b (failS s) ∧ Only [b] w w' := by
  have ST : Hid (∀ (W : World) (x : S), Rf W b x → Calls Try.prog 33 #[.pointer (some ⟨b, 0, none⟩)] W fun e w' => e = .returned (.int .i64 (stI x)) ∧ Below W.heap.size W w') := fun W x h => rstate h
  have H := hidden h
  have i1 := hI.er
  have i2 := hI.mx
  have i3 := hI.fl
  by_cases hq : s.er ≤ s.mx
  · obtain ⟨s', hs'⟩ : ∃ s', setE s (s.er + 1) = s' := ⟨_, rfl⟩
    rw [fail_le hq, hs', show chg s s' = !(decide (stI s' = stI s)) from rfl]
    have HS := hidden hs'
    have Z : Hid (∀ W, Rf W b s → Rf (W.setCell ⟨b, 3, none⟩ (.int .i64 (s.er + 1))) b s') := fun W h => HS.out ▸ h.upd (s.er + 1)
    have RS : Hid (∀ W, Rf W b s → W.cell? ⟨b, 3, none⟩ = some (.int .i64 s.er) ∧ W.cell? ⟨b, 0, none⟩ = some (.int .i64 s.mx) ∧ W.frozen? ⟨b, 3, none⟩ = false ∧ b < W.heap.size) := fun W h => rset3 h
    clear hs' h hI HS
    obtain ⟨x0, hx0⟩ : ∃ x0, stI s = x0 := ⟨_, rfl⟩
    obtain ⟨x1, hx1⟩ : ∃ x1, stI s' = x1 := ⟨_, rfl⟩
    rw [hx0, hx1]
    have HX0 := hidden hx0
    have HX1 := hidden hx1
    clear hx0 hx1
    generalize s.er = er at hq i1 Z RS
    generalize s.mx = mx at hq i1 i2 i3 RS
    go_enter Try.func26, Try.ntmps26
    go_wp2_with fail
    refine Calls.mono (ST.out _ _ H.out) ?_
    rintro e w1 ⟨rfl, hB1⟩
    rw [HX0.out]
    have H1 := hidden (H.out.later hB1)
    have O1 := hidden (Only.of_below (F := [b]) hB1)
    obtain ⟨c3, c0, f3, hb⟩ := RS.out _ H1.out
    clear hB1
    go_wp2_with fail
    go_quiet (fail)
    have H1' : Hid (Rf (w1.drewN nq) b s) := H1.out.later (below_drewN _ _)
    have H2 := hidden (Z.out _ H1'.out)
    have O2 : Hid (Only [b] w ((w1.drewN nq).setCell ⟨b, 3, none⟩ (.int .i64 (er + 1)))) := (O1.out.then (Only.of_below (below_drewN w1 nq))).then (Only.setCell (F := [b]) _ (p := ⟨b, 3, none⟩) (by simp) (.int .i64 (er + 1)))
    obtain ⟨d3, d0, g3, hb'⟩ := RS.out _ H1'.out
    clear H H1 H1' O1 c3 c0 f3
    generalize w1.drewN nq = w2 at H2 O2 d3 d0 g3 hb' ⊢
    go_wp2_with fail
    refine Calls.mono (ST.out _ _ H2.out) ?_
    rintro e w3 ⟨rfl, hB2⟩
    rw [HX1.out]
    have H3 := hidden (H2.out.later hB2)
    have O3 := hidden (O2.out.then (Only.of_below hB2))
    clear hB2 H2 O2 d3 d0 g3
    go_wp2
    go_ret
    exact ⟨congrArg Ending.returned (congrArg Value.bool (by rw [Bool.eq_iff_iff]; simp)), H3.out, O3.out⟩
  · rw [fail_gt hI hq, show chg s s = false by unfold chg; simp]
    have RS : Hid (∀ W, Rf W b s → W.cell? ⟨b, 3, none⟩ = some (.int .i64 s.er) ∧ W.cell? ⟨b, 0, none⟩ = some (.int .i64 s.mx) ∧ W.frozen? ⟨b, 3, none⟩ = false ∧ b < W.heap.size) := fun W h => rset3 h
    clear h hI
    obtain ⟨x0, hx0⟩ : ∃ x0, stI s = x0 := ⟨_, rfl⟩
    have HX0 := hidden hx0
    clear hx0
    generalize s.er = er at hq i1 RS
    generalize s.mx = mx at hq i1 i2 i3 RS
    have hq2 : mx < er := by omega
    clear hq
    go_enter Try.func26, Try.ntmps26
    go_wp2_with fail
    refine Calls.mono (ST.out _ _ H.out) ?_
    rintro e w1 ⟨rfl, hB1⟩
    rw [HX0.out]
    have H1 := hidden (H.out.later hB1)
    have O1 := hidden (Only.of_below (F := [b]) hB1)
    obtain ⟨c3, c0, f3, hb⟩ := RS.out _ H1.out
    clear hB1
    go_wp2_with fail
    go_quiet (fail)
    have H1' : Hid (Rf (w1.drewN nq) b s) := H1.out.later (below_drewN _ _)
    have O2 : Hid (Only [b] w (w1.drewN nq)) := O1.out.then (Only.of_below (below_drewN w1 nq))
    clear H H1 O1 c3 c0 f3
    generalize w1.drewN nq = w2 at H1' O2 ⊢
    go_wp2_with fail
    refine Calls.mono (ST.out _ _ H1'.out) ?_
    rintro e w3 ⟨rfl, hB2⟩
    rw [HX0.out]
    have H3 := hidden (H1'.out.later hB2)
    have O3 := hidden (O2.out.then (Only.of_below hB2))
    clear hB2 H1' O2
    go_wp2
    go_ret
    exact ⟨rfl, H3.out, O3.out⟩
theorem rgood (h : Rf w b s) : Calls Try.prog 27 #[.pointer (some ⟨b, 0, none⟩)] w fun e w' => e = .returned (.bool (chg s (goodS s))) ∧ Rf w' b (goodS s) ∧ Only [b] w w' := by
  have ST : Hid (∀ (W : World) (x : S), Rf W b x → Calls Try.prog 33 #[.pointer (some ⟨b, 0, none⟩)] W fun e w' => e = .returned (.int .i64 (stI x)) ∧ Below W.heap.size W w') := fun W x h => rstate h
  have H := hidden h
  obtain ⟨s', hs'⟩ : ∃ s', setE s 0 = s' := ⟨_, rfl⟩
  rw [show goodS s = setE s 0 from rfl, hs', show chg s s' = !(decide (stI s' = stI s)) from rfl]
  have HS := hidden hs'
  have Z : Hid (∀ W, Rf W b s → Rf (W.setCell ⟨b, 3, none⟩ (.int .i64 0)) b s') := fun W h => HS.out ▸ h.upd 0
  have RS : Hid (∀ W, Rf W b s → W.cell? ⟨b, 3, none⟩ = some (.int .i64 s.er) ∧ W.cell? ⟨b, 0, none⟩ = some (.int .i64 s.mx) ∧ W.frozen? ⟨b, 3, none⟩ = false ∧ b < W.heap.size) := fun W h => rset3 h
  clear hs' h HS
  obtain ⟨x0, hx0⟩ : ∃ x0, stI s = x0 := ⟨_, rfl⟩
  obtain ⟨x1, hx1⟩ : ∃ x1, stI s' = x1 := ⟨_, rfl⟩
  rw [hx0, hx1]
  have HX0 := hidden hx0
  have HX1 := hidden hx1
  clear hx0 hx1
  go_enter Try.func27, Try.ntmps27
  go_wp2_with fail
  refine Calls.mono (ST.out _ _ H.out) ?_
  rintro e w1 ⟨rfl, hB1⟩
  rw [HX0.out]
  have H1 := hidden (H.out.later hB1)
  have O1 := hidden (Only.of_below (F := [b]) hB1)
  obtain ⟨c3, c0, f3, hb⟩ := RS.out _ H1.out
  have H2 := hidden (Z.out _ H1.out)
  have O2 := hidden (O1.out.then (Only.setCell (F := [b]) w1 (p := ⟨b, 3, none⟩) (by simp) (.int .i64 0)))
  clear hB1 H H1 O1
  go_wp2_with fail
  refine Calls.mono (ST.out _ _ H2.out) ?_
  rintro e w3 ⟨rfl, hB2⟩
  rw [HX1.out]
  have H3 := hidden (H2.out.later hB2)
  have O3 := hidden (O2.out.then (Only.of_below hB2))
  clear hB2 H2 O2 c3 c0 f3
  go_wp2
  go_ret
  exact ⟨congrArg Ending.returned (congrArg Value.bool (by rw [Bool.eq_iff_iff]; simp)), H3.out, O3.out⟩
theorem rused (h : Rf w b s) (n : Int) : Calls Try.prog 28 #[.pointer (some ⟨b, 0, none⟩), .int .i64 n] w fun e w' => e = .returned (.int .i64 (usedE n)) ∧ Rf w' b (usedS s n) ∧ Only [b] w w' := by
  have T : Hid (∀ W, Calls Try.prog 25 #[.int .i64 n] W fun e w' => e = .returned (.bool (tok n)) ∧ W = w') := fun W => rtime n W
  have H := hidden h
  unfold usedS usedE
  generalize tok n = x0 at T ⊢
  cases x0
  · clear h
    go_enter Try.func28, Try.ntmps28
    go_wp2_with fail
    refine Calls.mono (T.out _) ?_
    rintro e w' ⟨rfl, rfl⟩
    go_wp2
    go_ret
    exact ⟨rfl, H.out, Only.refl _ _⟩
  · have Z : Hid (Rf (w.setCell ⟨b, 4, none⟩ (.int .i64 (max s.us n))) b (useS s n)) := Has.set h 4 (.int .i64 (max s.us n))
    have ZZ : max s.us n = s.us → useS s n = s := fun h => by unfold useS; rw [h]
    obtain ⟨er, fl, mx, nu, op, bg, pa, us⟩ := s
    simp only at Z ZZ
    obtain ⟨⟨_, _, _, _, c4, _⟩, hb⟩ := h.cells
    have f4 := h.frozen 4
    clear h
    by_cases hu : us ≤ n
    · rw [show max us n = n by omega] at Z
      clear ZZ
      go_enter Try.func28, Try.ntmps28
      go_wp2_with fail
      refine Calls.mono (T.out _) ?_
      rintro e w' ⟨rfl, rfl⟩
      go_wp2
      go_ret
      exact ⟨rfl, Z.out, Only.setCell (F := [b]) _ (p := ⟨b, 4, none⟩) (by simp) _⟩
    · have hu2 : n < us := by omega
      have Z2 := hidden (ZZ (by omega))
      clear ZZ Z hu
      go_enter Try.func28, Try.ntmps28
      go_wp2_with fail
      refine Calls.mono (T.out _) ?_
      rintro e w' ⟨rfl, rfl⟩
      go_wp2
      go_ret
      exact ⟨rfl, Z2.out.symm ▸ H.out, Only.refl _ _⟩
theorem rask (h : Rf w b s) (hI : Inv s) (n : Int) : Calls Try.prog 29 #[.pointer (some ⟨b, 0, none⟩), .int .i64 n] w fun e w' => e = .returned (.tuple #[.int .i64 (askA s n), .int .i64 (askE n)]) ∧ Below w.heap.size w w' := by
  have C := hidden (rstate h)
  have H := hidden h
  have i1 := hI.us
  have i2 := hI.pa
  clear hI
  by_cases hn : 1 ≤ n ∧ n ≤ 2147483648
  · have hw : wok n = true := decide_eq_true hn
    unfold askA askE
    rw [hw]
    clear hw
    obtain ⟨n1, n2⟩ := hn
    generalize stI s = x1 at C ⊢
    obtain ⟨er, fl, mx, nu, op, bg, pa, us⟩ := s
    simp only [cond_true] at i1 i2 ⊢
    obtain ⟨⟨_, _, c2, _, c4, _⟩, hb⟩ := h.cells
    clear h
    by_cases h2 : x1 = 2
    · subst h2
      by_cases h3 : 1099511627776 < us + n
      · rw [show min (us + n + (if (2 : Int) = 2 then 0 else pa)) 1099511627776 = 1099511627776 by simp; omega]
        go_enter Try.func29, Try.ntmps29
        go_wp2_with fail
        refine Calls.mono C.out ?_
        rintro e w1 ⟨rfl, h1⟩
        have H1 := hidden h1
        clear h1 c2 c4
        go_wp2
        go_ret2
        exact ⟨rfl, H1.out⟩
      · rw [show min (us + n + (if (2 : Int) = 2 then 0 else pa)) 1099511627776 = us + n by simp; omega]
        go_enter Try.func29, Try.ntmps29
        go_wp2_with fail
        refine Calls.mono C.out ?_
        rintro e w1 ⟨rfl, h1⟩
        have H1 := hidden h1
        clear h1 c2 c4
        go_wp2
        go_ret2
        exact ⟨rfl, H1.out⟩
    · have hx : (x1 == 2) = false := beq_eq_false_iff_ne.2 h2
      rw [if_neg h2]
      by_cases h3 : 1099511627776 < us + n + pa
      · rw [show min (us + n + pa) 1099511627776 = 1099511627776 by omega]
        go_enter Try.func29, Try.ntmps29
        go_wp2_with fail
        refine Calls.mono C.out ?_
        rintro e w1 ⟨rfl, h1⟩
        have H1 := hidden h1
        obtain ⟨⟨_, _, d2, _, d4, _⟩, hb1⟩ := (H.out.later h1).cells
        clear h1 c2 c4
        go_wp2
        go_ret2
        exact ⟨rfl, H1.out⟩
      · rw [show min (us + n + pa) 1099511627776 = us + n + pa by omega]
        go_enter Try.func29, Try.ntmps29
        go_wp2_with fail
        refine Calls.mono C.out ?_
        rintro e w1 ⟨rfl, h1⟩
        have H1 := hidden h1
        obtain ⟨⟨_, _, d2, _, d4, _⟩, hb1⟩ := (H.out.later h1).cells
        clear h1 c2 c4
        go_wp2
        go_ret2
        exact ⟨rfl, H1.out⟩
  · have hw : wok n = false := decide_eq_false hn
    unfold askA askE
    rw [hw]
    simp only [cond_false]
    clear h C H hw
    by_cases h0 : n < 1
    · clear hn
      go_enter Try.func29, Try.ntmps29
      go_wp2
      go_ret2
      exact ⟨rfl, Below.refl _ _⟩
    · have h1 : 2147483648 < n := by omega
      have h2 : 1 ≤ n := by omega
      clear hn h0
      go_enter Try.func29, Try.ntmps29
      go_wp2
      go_ret2
      exact ⟨rfl, Below.refl _ _⟩
set_option maxHeartbeats 400000 in
theorem rbeat (h : Rf w b s) (hI : Inv s) (n : Int) : Calls Try.prog 30 #[.pointer (some ⟨b, 0, none⟩), .int .i64 n] w fun e w' => e = .returned (.tuple #[.int .u32 (beatN s n), .int .i64 (beatE s n)]) ∧ Rf w' b (beatS s n) ∧ Only [b] w w' := by
  have T : Hid (∀ W, Calls Try.prog 25 #[.int .i64 n] W fun e w' => e = .returned (.bool (tok n)) ∧ W = w') := fun W => rtime n W
  have hn : tok n = true → usedS (begS s n) n = begS (useS s n) n := fun h => by unfold usedS; rw [h]; rfl
  have H := hidden h
  have i1 := hI.nu
  have C : Hid (∀ W, Rf W b (begS s n) → Calls Try.prog 28 #[.pointer (some ⟨b, 0, none⟩), .int .i64 n] W fun e w' => e = .returned (.int .i64 (usedE n)) ∧ Rf w' b (usedS (begS s n) n) ∧ Only [b] W w') := fun W h => rused h n
  have Z : Hid (Rf (((w.setCell ⟨b, 5, none⟩ (.bool true)).setCell ⟨b, 6, none⟩ (.int .u32 ((s.nu + 1) % 4294967296))).setCell ⟨b, 7, none⟩ (.int .i64 n)) b (begS s n)) := Has.set (Has.set (Has.set h 5 (.bool true)) 6 (.int .u32 ((s.nu + 1) % 4294967296))) 7 (.int .i64 n)
  have D : Hid (∀ W, Rf W b (begS (useS s n) n) → W.cell? ⟨b, 6, none⟩ = some (.int .u32 ((s.nu + 1) % 4294967296)) ∧ b < W.heap.size) := fun W h => ⟨Has.cell h 6 rfl, Has.lt h⟩
  have OO : Hid (Only [b] w (((w.setCell ⟨b, 5, none⟩ (.bool true)).setCell ⟨b, 6, none⟩ (.int .u32 ((s.nu + 1) % 4294967296))).setCell ⟨b, 7, none⟩ (.int .i64 n))) := ((Only.setCell (F := [b]) w (p := ⟨b, 5, none⟩) (by simp) _).then (Only.setCell (F := [b]) _ (p := ⟨b, 6, none⟩) (by simp) _)).then (Only.setCell (F := [b]) _ (p := ⟨b, 7, none⟩) (by simp) _)
  unfold beatN beatE beatS
  clear hI
  generalize usedE n = y0 at C
  generalize usedS (begS s n) n = s1 at C hn
  generalize begS s n = s2 at C Z
  generalize begS (useS s n) n = s3 at hn D ⊢
  generalize tok n = x0 at T hn ⊢
  cases x0
  · clear h Z D C hn
    go_enter Try.func30, Try.ntmps30
    go_wp2_with fail
    refine Calls.mono (T.out _) ?_
    rintro e w' ⟨rfl, rfl⟩
    go_wp2
    go_ret2
    exact ⟨rfl, H.out, Only.refl _ _⟩
  · obtain rfl := hn rfl
    obtain ⟨er, fl, mx, nu, op, bg, pa, us⟩ := s
    obtain ⟨⟨_, _, _, _, _, c5, c6, c7⟩, hb⟩ := h.cells
    have f5 := h.frozen 5
    have f6 := h.frozen 6
    have f7 := h.frozen 7
    simp only at Z D OO i1 ⊢
    have hw : IntKind.u32.wrap (nu + 1) = (nu + 1) % 4294967296 := rfl
    clear h hn
    cases op
    · go_enter Try.func30, Try.ntmps30
      go_wp2_with fail
      refine Calls.mono (T.out _) ?_
      rintro e w' ⟨rfl, rfl⟩
      go_wp2_with fail
      refine Calls.mono (C.out _ Z.out) ?_
      rintro e w1 ⟨rfl, h1, h2⟩
      have H1 := hidden h1
      have H2 := hidden (OO.out.then h2)
      obtain ⟨d6, hb1⟩ := D.out _ h1
      clear h1 h2 Z OO C c5 c6 c7 f5 f6 f7
      go_wp2
      go_ret2
      exact ⟨rfl, H1.out, H2.out⟩
    · go_enter Try.func30, Try.ntmps30
      go_wp2_with fail
      refine Calls.mono (T.out _) ?_
      rintro e w' ⟨rfl, rfl⟩
      go_wp2
      go_ret2
      exact ⟨rfl, H.out, Only.refl _ _⟩
set_option maxHeartbeats 1000000 in
theorem rheard (h : Rf w b s) (hI : Inv s) (m n : Int) : Calls Try.prog 31 #[.pointer (some ⟨b, 0, none⟩), .int .u32 m, .int .i64 n] w fun e w' => e = .returned (.tuple #[.int .i64 (hearA s m n), .bool (hearB s m n), .int .i64 (hearE s m n)]) ∧ Rf w' b (hearS shutS s m n) ∧ Only [b] w w' := by
  have T : Hid (∀ W, Calls Try.prog 25 #[.int .i64 n] W fun e w' => e = .returned (.bool (tok n)) ∧ W = w') := fun W => rtime n W
  have hn : tok n = true → 0 ≤ n ∧ n ≤ 1099511627776 := fun h => of_decide_eq_true h
  have F : Hid (∀ W, Rf W b (shutS s) → Calls Try.prog 27 #[.pointer (some ⟨b, 0, none⟩)] W fun e w' => e = .returned (.bool (chg s (goodS s))) ∧ Rf w' b (goodS (shutS s)) ∧ Only [b] W w' ∧ w'.cell? ⟨b, 7, none⟩ = some (.int .i64 s.bg)) := fun W h => (rgood h).mono (by rintro e w' ⟨rfl, h1, h2⟩; exact ⟨rfl, h1, h2, Has.cell h1 7 rfl⟩)
  have H := hidden h
  have hg := hI.bg
  have H1 : Hid (Rf (w.setCell ⟨b, 5, none⟩ (.bool false)).drew b (shutS s)) := Rf.later (w := (w.setCell ⟨b, 5, none⟩ (.bool false))) (Has.set h 5 (.bool false)) ⟨rfl, rfl, rfl, Nat.le_refl _, fun _ _ => rfl⟩
  have hc7 : (w.setCell ⟨b, 5, none⟩ (.bool false)).drew.cell? ⟨b, 7, none⟩ = some (.int .i64 s.bg) := Has.cell H1.out 7 rfl
  have OO : Hid (Only [b] w (w.setCell ⟨b, 5, none⟩ (.bool false))) := Only.setCell (F := [b]) w (p := ⟨b, 5, none⟩) (by simp) _
  have EC : Hid (∀ (args : Array Value) (w : World), (callFunc 27 args).run Try.prog w = .ok (.enter 27 args) w) := enters_of Try.func27 (by kernel_rfl) rfl
  unfold hearA hearB hearE hearS ansB
  clear hI
  generalize chg s (goodS s) = x3 at F ⊢
  generalize goodS (shutS s) = s2 at F ⊢
  generalize shutS s = s1 at F H1
  generalize tok n = x0 at T hn ⊢
  obtain ⟨er, fl, mx, nu, op, bg, pa, us⟩ := s
  obtain ⟨⟨_, _, _, _, _, c5, c6, c7⟩, hb⟩ := h.cells
  have f5 := h.frozen 5
  simp only at F hg hc7 ⊢
  clear h
  cases x0
  · clear hn
    go_enter Try.func31, Try.ntmps31
    go_wp2_with fail
    refine Calls.mono (T.out _) ?_
    rintro e w' ⟨rfl, rfl⟩
    go_wp2
    go_ret3
    exact ⟨rfl, H.out, Only.refl _ _⟩
  · obtain ⟨n1, n2⟩ := hn rfl
    clear hn
    cases op
    · go_enter Try.func31, Try.ntmps31
      go_wp2_with fail
      refine Calls.mono (T.out _) ?_
      rintro e w' ⟨rfl, rfl⟩
      go_wp2
      go_ret3
      exact ⟨rfl, H.out, Only.refl _ _⟩
    · by_cases hm : nu = m
      · subst hm
        by_cases hb2 : bg ≤ n
        · rw [show (true && (decide (nu = nu) && decide (bg ≤ n))) = true by simp [hb2]]
          simp only [Bool.and_true, cond_true]
          go_enter Try.func31, Try.ntmps31
          go_wp2_with fail
          refine Calls.mono (T.out _) ?_
          rintro e w' ⟨rfl, rfl⟩
          go_upto_region 6 with fail
          refine Ord.wp_region_ex0 (X := Unit) (by kernel_rfl) 44 (fun x => [(some 36, .int .i64 n), (some 37, .pointer (some ⟨b, 0, none⟩)), (some 38, .pointer (some ⟨b, 0, none⟩)), (some 39, .pointer (some ⟨b, 7, none⟩)), (some 40, .int .i64 bg), (some 41, .int .i64 (n - bg)), (some 42, .pointer (some ⟨b, 0, none⟩)), (some 43, .bool x3), (some 6, .int .i64 (n - bg)), (some 7, .bool x3), (some 8, .int .i64 0)]) [some 36, some 37, some 38, some 39, some 40, some 41, some 42, some 43, some 6, some 7, some 8] rfl (fun listed hsz hr => Ord.all_listedC (rank := [0, 1, 2, 3, 4, 5, 6, 7, 8, 9, 10]) (by kernel_rfl) hsz hr) (by rfl) (fun _ => rfl) (by kernel_rfl) (Rg.StM [7] (fun k _ w' => (k = 0 → w' = (w.setCell ⟨b, 5, none⟩ (.bool false)).drew) ∧ (1 ≤ k → Rf w' b s2 ∧ Only [b] (w.setCell ⟨b, 5, none⟩ (.bool false)).drew w') ∧ w'.cell? ⟨b, 7, none⟩ = some (.int .i64 bg))) (fun _ _ _ _ hL h => h.ext (n := 11) (by decide) hL) ?_ ?_ () ?_
          case refine_1 =>
            intro x Lq iq oq ac w' ho hi hcl hdep hF hW
            have f1 : ac.tmps.size = 44 := hF.1
            match iq, ho, hi, hdep with
            | 0, ho, hi, hdep =>
              cases ho
              have da0 : ac.eval (.tmp 2) = .int .i64 n := hF.old 2 rfl
              exact Ord.ex_value x rfl rfl (Rg.mv da0 rfl) rfl (hW.keep (by decide))
            | 1, ho, hi, hdep =>
              cases ho
              have da0 : ac.eval (.tmp 0) = .pointer (some ⟨b, 0, none⟩) := hF.old 0 rfl
              exact Ord.ex_value x rfl rfl (Rg.mv da0 rfl) rfl (hW.keep (by decide))
            | 2, ho, hi, hdep =>
              cases ho
              have da0 : ac.eval (.tmp 37) = .pointer (some ⟨b, 0, none⟩) := hF.2.2.2 1 37 _ rfl (hdep ⟨1, .data⟩ (by simp) rfl)
              exact Ord.ex_value x rfl rfl (Rg.nilc da0 rfl) rfl (hW.keep (by decide))
            | 3, ho, hi, hdep =>
              cases ho
              have da0 : ac.eval (.tmp 38) = .pointer (some ⟨b, 0, none⟩) := hF.2.2.2 2 38 _ rfl (hdep ⟨2, .data⟩ (by simp) rfl)
              exact Ord.ex_value x rfl rfl (Rg.fa da0 rfl (by simp [go_sem])) rfl (hW.keep (by decide))
            | 4, ho, hi, hdep =>
              cases ho
              have da0 : ac.eval (.tmp 39) = .pointer (some ⟨b, 7, none⟩) := hF.2.2.2 3 39 _ rfl (hdep ⟨3, .data⟩ (by simp) rfl)
              obtain ⟨kq, hlo, hhi, hA⟩ := hW.range 0 1 (.inl rfl) (.inl rfl)
              exact Ord.ex_value x rfl rfl (Rg.load da0 rfl (by simp [go_sem, hA.2.2])) rfl (hW.keep (by decide))
            | 5, ho, hi, hdep =>
              cases ho
              have da0 : ac.eval (.tmp 36) = .int .i64 n := hF.2.2.2 0 36 _ rfl (hdep ⟨0, .data⟩ (by simp) rfl)
              have da1 : ac.eval (.tmp 40) = .int .i64 bg := hF.2.2.2 4 40 _ rfl (hdep ⟨4, .data⟩ (by simp) rfl)
              have hw1 : IntKind.i64.wrap (n - bg) = n - bg := by rw [IntKind.wrap_i64]; omega
              exact Ord.ex_value x rfl rfl (Rg.bin da0 da1 rfl (by simp [go_sem, hw1])) rfl (hW.keep (by decide))
            | 6, ho, hi, hdep =>
              cases ho
              have da0 : ac.eval (.tmp 0) = .pointer (some ⟨b, 0, none⟩) := hF.old 0 rfl
              exact Ord.ex_value x rfl rfl (Rg.mv da0 rfl) rfl (hW.keep (by decide))
            | 7, ho, hi, hdep =>
              cases ho
              have da0 : ac.eval (.tmp 42) = .pointer (some ⟨b, 0, none⟩) := hF.2.2.2 6 42 _ rfl (hdep ⟨6, .data⟩ (by simp) rfl)
              have hA := hW.at (k := 0) rfl hi (.inl rfl)
              have hw := hA.1 (by omega)
              subst hw
              refine Rg.ex_call x rfl rfl (Rg.enter (args := #[.pointer (some ⟨b, 0, none⟩)]) rfl rfl (by simp [da0]) EC.out) (Calls.mono (F.out _ H1.out) ?_)
              rintro e w2 ⟨rfl, h1, h2, h3⟩
              exact ⟨rfl, hW.next (k := 0) rfl (by decide) hi (.inl rfl) ⟨fun h => absurd h (by decide), fun _ => ⟨h1, h2⟩, h3⟩⟩
            | 8, ho, hi, hdep =>
              cases ho
              have da0 : ac.eval (.tmp 41) = .int .i64 (n - bg) := hF.2.2.2 5 41 _ rfl (hdep ⟨5, .data⟩ (by simp) rfl)
              exact Ord.ex_value x rfl rfl (Rg.asg da0 rfl) rfl (hW.keep (by decide))
            | 9, ho, hi, hdep =>
              cases ho
              have da0 : ac.eval (.tmp 43) = .bool x3 := hF.2.2.2 7 43 _ rfl (hdep ⟨7, .data⟩ (by simp) rfl)
              exact Ord.ex_value x rfl rfl (Rg.asg da0 rfl) rfl (hW.keep (by decide))
            | 10, ho, hi, hdep =>
              cases ho
              exact Ord.ex_value x rfl rfl (Rg.asg rfl rfl) rfl (hW.keep (by decide))
          case refine_2 =>
            intro x w' hW
            have hO := hW.last.2.1 (by decide)
            have H3 := hidden hO.1
            have H2 := hidden (OO.out.then hO.2.of_drew)
            clear hO hW
            simp only [Ord.puts, Ord.prs]
            go_simp
            go_wp2
            go_ret3
            exact ⟨rfl, H3.out, H2.out⟩
          case refine_3 => exact Rg.StM.first ⟨fun _ => rfl, fun h => absurd h (by decide), hc7⟩
        · rw [show (true && (decide (nu = nu) && decide (bg ≤ n))) = false by simp [hb2]]
          simp only [Bool.and_false, cond_false, cond_true]
          have hb3 : n < bg := by omega
          clear hb2
          go_enter Try.func31, Try.ntmps31
          go_wp2_with fail
          refine Calls.mono (T.out _) ?_
          rintro e w' ⟨rfl, rfl⟩
          go_wp2
          go_ret3
          exact ⟨rfl, H.out, Only.refl _ _⟩
      · rw [show (true && (decide (nu = m) && decide (bg ≤ n))) = false by simp [hm]]
        simp only [Bool.and_false, cond_false, cond_true]
        have hm2 : (m == nu) = false := beq_eq_false_iff_ne.2 fun e => hm e.symm
        have hm3 : ¬ m = nu := fun e => hm e.symm
        clear hm
        go_enter Try.func31, Try.ntmps31
        go_wp2_with fail
        refine Calls.mono (T.out _) ?_
        rintro e w' ⟨rfl, rfl⟩
        go_wp2
        go_ret3
        exact ⟨rfl, H.out, Only.refl _ _⟩
theorem rmissed (h : Rf w b s) (hI : Inv s) : Calls Try.prog 32 #[.pointer (some ⟨b, 0, none⟩)] w fun e w' => e = .returned (.tuple #[.bool (missB s), .int .i64 (missE s)]) ∧ Rf w' b (missS shutS s) ∧ Only [b] w w' := by
  have F : Hid (∀ W, Rf W b (shutS s) → Calls Try.prog 26 #[.pointer (some ⟨b, 0, none⟩)] W fun e w' => e = .returned (.bool (chg s (failS s))) ∧ Rf w' b (failS (shutS s)) ∧ Only [b] W w') := fun W h => rfail h hI.shut
  have H := hidden h
  have H1 : Hid (Rf (w.setCell ⟨b, 5, none⟩ (.bool false)) b (shutS s)) := Has.set h 5 (.bool false)
  have OO : Hid (Only [b] w (w.setCell ⟨b, 5, none⟩ (.bool false))) := Only.setCell (F := [b]) w (p := ⟨b, 5, none⟩) (by simp) _
  unfold missB missE missS
  clear hI
  generalize chg s (failS s) = x3 at F ⊢
  generalize failS (shutS s) = s2 at F ⊢
  generalize shutS s = s1 at F H1
  obtain ⟨er, fl, mx, nu, op, bg, pa, us⟩ := s
  obtain ⟨⟨_, _, _, _, _, c5, _, _⟩, hb⟩ := h.cells
  have f5 := h.frozen 5
  simp only
  clear h
  cases op
  · go_enter Try.func32, Try.ntmps32
    go_wp2
    go_ret2
    exact ⟨rfl, H.out, Only.refl _ _⟩
  · go_enter Try.func32, Try.ntmps32
    go_wp2_with fail
    refine Calls.mono (F.out _ H1.out) ?_
    rintro e w1 ⟨rfl, h1, h2⟩
    have H3 := hidden h1
    have H2 := hidden (OO.out.then h2)
    clear h1 h2 c5 f5
    go_wp2
    go_ret2
    exact ⟨rfl, H3.out, H2.out⟩
end
end Go.Proofs.Ytfofcaedblhegaa.Pa
