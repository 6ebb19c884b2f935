/-
  Paths: one error more; the methods of a path that was made.
  Conditions: as at each lemma.
-/
import Derived.Test.YtfofcaedblhegaaPaA
import Derived.Shelf.Abstract
namespace Go.Proofs.Ytfofcaedblhegaa.Pa
open Go.ChangeShapes Go.WideShapes Go.ChangeAt Go.RowKit
open Ba (hidden Has Only)
open Ow (Own)
set_option linter.unusedVariables false

theorem min_ {P : Program} {a : Act} {o : Oper} {w : World} {x y : Operand} {t t' : TypeId} {u v r : Value} (h0 : a.eval x = u) (h1 : a.eval y = v) (ho : o.op = .call { callee := .builtin .min, args := #[x, y], argTypes := #[t, t'] }) (hr : (Builtin.min_ #[t, t'] o.type #[u, v]).run P w = .ok r w) : (execOp a.eval o).run P w = .ok (.value r) w := by
  have e : execOp a.eval o = (do pure (.value (← Builtin.min_ #[t, t'] o.type #[a.eval x, a.eval y]))) := by
    unfold execOp
    rw [ho]
    simp [resolve, invoke, builtin]
  rw [e, h0, h1]
  exact Ord.run_v hr
theorem Inv.fail {s : S} (h : Inv s) : Inv (failS s) := ⟨by have := h.er; have := h.fl; simp only [failS, setE]; omega, h.fl, h.mx, h.nu, h.bg, h.pa, h.us⟩
theorem Inv.good {s : S} (h : Inv s) : Inv (goodS s) := ⟨by have := h.er; have := h.fl; simp only [goodS, setE]; omega, h.fl, h.mx, h.nu, h.bg, h.pa, h.us⟩
theorem Inv.use {s : S} (h : Inv s) {n : Int} (hn : 0 ≤ n ∧ n ≤ 1099511627776) : Inv (useS s n) := ⟨h.er, h.fl, h.mx, h.nu, h.bg, h.pa, by have := h.us; simp only [useS]; omega⟩
theorem Inv.beg {s : S} (h : Inv s) {n : Int} (hn : 0 ≤ n ∧ n ≤ 1099511627776) : Inv (begS s n) := ⟨h.er, h.fl, h.mx, by simp only [begS]; omega, hn, h.pa, h.us⟩
theorem Inv.end {s : S} (h : Inv s) : Inv (endS s) := ⟨h.er, h.fl, h.mx, h.nu, by simp only [endS]; omega, h.pa, h.us⟩
theorem Inv.shut {s : S} (h : Inv s) : Inv (shutS s) := ⟨h.er, h.fl, h.mx, h.nu, h.bg, h.pa, h.us⟩
section
variable {w : World} {b : Nat} {s : S}
set_option maxHeartbeats 400000 in
theorem count (h : Cd w b s) (hI : Inv s) : Calls Try.prog 35 #[.pointer (some ⟨b, 0, none⟩)] w fun e w' => e = .returned (.bool (chg s (failS s))) ∧ Cd w' b (failS s) ∧ Only [b] w w' := by
  have i1 := hI.er
  have i2 := hI.mx
  have i3 := hI.fl
  have B0 : Hid (∀ W, Cd W b s → Calls Try.prog 43 #[.pointer (some ⟨b, 0, none⟩), .int .i64 (min s.er s.mx + 1)] W fun e w' => e = .returned (.bool (chg s (failS s))) ∧ Cd w' b (failS s) ∧ Only [b] W w') := fun W h => become h _
  have H : Hid (Cd w.drew b s) := h.later ⟨rfl, rfl, rfl, Nat.le_refl _, fun _ _ => rfl⟩
  obtain ⟨s', hs'⟩ : ∃ s', failS s = s' := ⟨_, rfl⟩
  rw [hs'] at B0 ⊢
  generalize chg s s' = x1 at B0 ⊢
  clear hs'
  obtain ⟨er, fl, mx, nu, op, bg, pa, us⟩ := s
  simp only at i1 i2 i3
  have B : Hid (∀ W, Cd W b ⟨er, fl, mx, nu, op, bg, pa, us⟩ → Calls Try.prog 43 #[.pointer (some ⟨b, 0, none⟩), .int .i64 (min er mx + 1)] W fun e w' => e = .returned (.bool x1) ∧ Cd w' b s' ∧ Only [b] W w') := B0
  obtain ⟨⟨c0, _, c2, _, _, _, _, _⟩, hb⟩ := h.cells
  clear h hI B0
  have EC : Hid (∀ (args : Array Value) (w : World), (callFunc 43 args).run Try.prog w = .ok (.enter 43 args) w) := enters_of Try.func43 (by kernel_rfl) rfl
  go_enter Try.func35, Try.ntmps35
  go_upto_region 1 with fail
  refine Ord.wp_region_ex0 (X := Unit) (by kernel_rfl) 15 (fun x => [(some 3, .pointer (some ⟨b, 0, none⟩)), (some 4, .pointer (some ⟨b, 0, none⟩)), (some 5, .pointer (some ⟨b, 0, none⟩)), (some 6, .pointer (some ⟨b, 0, none⟩)), (some 7, .int .i64 er), (some 8, .pointer (some ⟨b, 0, none⟩)), (some 9, .pointer (some ⟨b, 0, none⟩)), (some 10, .pointer (some ⟨b, 2, none⟩)), (some 11, .int .i64 mx), (some 12, .int .i64 (min er mx)), (some 13, .int .i64 (min er mx + 1)), (some 14, .bool x1), (some 2, .bool x1)]) [some 3, some 4, some 5, some 6, some 7, some 8, some 9, some 10, some 11, some 12, some 13, some 14, some 2] rfl (fun listed hsz hr => Ord.all_listedC (rank := [0, 1, 2, 3, 4, 5, 6, 7, 8, 9, 10, 11, 12]) (by kernel_rfl) hsz hr) (by rfl) (fun _ => rfl) (by kernel_rfl) (Rg.StM [11] (fun k _ w' => (k = 0 → w' = w.drew) ∧ (1 ≤ k → Cd w' b s' ∧ Only [b] w.drew w'))) (fun _ _ _ _ hL h => h.ext (n := 13) (by decide) hL) ?_ ?_ () ?_
  case refine_1 =>
    intro x Lq iq oq ac w' ho hi hcl hdep hF hW
    have f1 : ac.tmps.size = 15 := hF.1
    match iq, ho, hi, hdep with
    | 0, ho, hi, hdep =>
      cases ho
      have da0 : ac.eval (.tmp 0) = .pointer (some ⟨b, 0, none⟩) := hF.old 0 rfl
      exact Ord.ex_value x rfl rfl (Rg.mv da0 rfl) rfl (hW.keep (by decide))
    | 1, ho, hi, hdep =>
      cases ho
      have da0 : ac.eval (.tmp 0) = .pointer (some ⟨b, 0, none⟩) := hF.old 0 rfl
      exact Ord.ex_value x rfl rfl (Rg.mv da0 rfl) rfl (hW.keep (by decide))
    | 2, ho, hi, hdep =>
      cases ho
      have da0 : ac.eval (.tmp 4) = .pointer (some ⟨b, 0, none⟩) := hF.2.2.2 1 4 _ rfl (hdep ⟨1, .data⟩ (by simp) rfl)
      exact Ord.ex_value x rfl rfl (Rg.nilc da0 rfl) rfl (hW.keep (by decide))
    | 3, ho, hi, hdep =>
      cases ho
      have da0 : ac.eval (.tmp 5) = .pointer (some ⟨b, 0, none⟩) := hF.2.2.2 2 5 _ rfl (hdep ⟨2, .data⟩ (by simp) rfl)
      exact Ord.ex_value x rfl rfl (Rg.fa da0 rfl (by simp [go_sem])) rfl (hW.keep (by decide))
    | 4, ho, hi, hdep =>
      cases ho
      have da0 : ac.eval (.tmp 6) = .pointer (some ⟨b, 0, none⟩) := hF.2.2.2 3 6 _ rfl (hdep ⟨3, .data⟩ (by simp) rfl)
      obtain ⟨kq, hlo, hhi, hA⟩ := hW.range 0 0 (.inl rfl) (.inr ⟨11, rfl, (Rg.no_of (fun h => hcl 9 _ rfl (hcl 10 _ rfl (hcl 11 _ rfl (h) ⟨10, .data⟩ (by simp) rfl) ⟨9, .data⟩ (by simp) rfl) ⟨4, .data⟩ (by simp) rfl) hi)⟩)
      exact Ord.ex_value x rfl rfl (Rg.load da0 rfl (by rw [hA.1 (by omega)]; simp [go_sem, c0])) rfl (hW.keep (by decide))
    | 5, ho, hi, hdep =>
      cases ho
      have da0 : ac.eval (.tmp 0) = .pointer (some ⟨b, 0, none⟩) := hF.old 0 rfl
      exact Ord.ex_value x rfl rfl (Rg.mv da0 rfl) rfl (hW.keep (by decide))
    | 6, ho, hi, hdep =>
      cases ho
      have da0 : ac.eval (.tmp 8) = .pointer (some ⟨b, 0, none⟩) := hF.2.2.2 5 8 _ rfl (hdep ⟨5, .data⟩ (by simp) rfl)
      exact Ord.ex_value x rfl rfl (Rg.nilc da0 rfl) rfl (hW.keep (by decide))
    | 7, ho, hi, hdep =>
      cases ho
      have da0 : ac.eval (.tmp 9) = .pointer (some ⟨b, 0, none⟩) := hF.2.2.2 6 9 _ rfl (hdep ⟨6, .data⟩ (by simp) rfl)
      exact Ord.ex_value x rfl rfl (Rg.fa da0 rfl (by simp [go_sem])) rfl (hW.keep (by decide))
    | 8, ho, hi, hdep =>
      cases ho
      have da0 : ac.eval (.tmp 10) = .pointer (some ⟨b, 2, none⟩) := hF.2.2.2 7 10 _ rfl (hdep ⟨7, .data⟩ (by simp) rfl)
      obtain ⟨kq, hlo, hhi, hA⟩ := hW.range 0 0 (.inl rfl) (.inr ⟨11, rfl, (Rg.no_of (fun h => hcl 9 _ rfl (hcl 10 _ rfl (hcl 11 _ rfl (h) ⟨10, .data⟩ (by simp) rfl) ⟨9, .data⟩ (by simp) rfl) ⟨8, .data⟩ (by simp) rfl) hi)⟩)
      exact Ord.ex_value x rfl rfl (Rg.load da0 rfl (by rw [hA.1 (by omega)]; simp [go_sem, c2])) rfl (hW.keep (by decide))
    | 9, ho, hi, hdep =>
      cases ho
      have da0 : ac.eval (.tmp 7) = .int .i64 er := hF.2.2.2 4 7 _ rfl (hdep ⟨4, .data⟩ (by simp) rfl)
      have da1 : ac.eval (.tmp 11) = .int .i64 mx := hF.2.2.2 8 11 _ rfl (hdep ⟨8, .data⟩ (by simp) rfl)
      exact Ord.ex_value x rfl rfl (min_ da0 da1 rfl (by simp [go_sem])) rfl (hW.keep (by decide))
    | 10, ho, hi, hdep =>
      cases ho
      have da0 : ac.eval (.tmp 12) = .int .i64 (min er mx) := hF.2.2.2 9 12 _ rfl (hdep ⟨9, .data⟩ (by simp) rfl)
      have hw1 : IntKind.i64.wrap (min er mx + 1) = min er mx + 1 := by rw [IntKind.wrap_i64]; omega
      exact Ord.ex_value x rfl rfl (Rg.bin da0 rfl rfl (by simp [go_sem, hw1])) rfl (hW.keep (by decide))
    | 11, ho, hi, hdep =>
      cases ho
      have da0 : ac.eval (.tmp 3) = .pointer (some ⟨b, 0, none⟩) := hF.2.2.2 0 3 _ rfl (hdep ⟨0, .data⟩ (by simp) rfl)
      have da1 : ac.eval (.tmp 13) = .int .i64 (min er mx + 1) := hF.2.2.2 10 13 _ rfl (hdep ⟨10, .data⟩ (by simp) rfl)
      have hA := hW.at (k := 0) rfl hi (.inl rfl)
      have hw := hA.1 (by omega)
      subst hw
      refine Rg.ex_call x rfl rfl (Rg.enter (args := #[.pointer (some ⟨b, 0, none⟩), .int .i64 (min er mx + 1)]) rfl rfl (by simp [da0, da1]) EC.out) (Calls.mono (B.out _ H.out) ?_)
      rintro e w2 ⟨rfl, h1, h2⟩
      exact ⟨rfl, hW.next (k := 0) rfl (by decide) hi (.inl rfl) ⟨fun h => absurd h (by decide), fun _ => ⟨h1, h2⟩⟩⟩
    | 12, ho, hi, hdep =>
      cases ho
      have da0 : ac.eval (.tmp 14) = .bool x1 := hF.2.2.2 11 14 _ rfl (hdep ⟨11, .data⟩ (by simp) rfl)
      exact Ord.ex_value x rfl rfl (Rg.asg da0 rfl) rfl (hW.keep (by decide))
  case refine_2 =>
    intro x w' hW
    have hO := hW.last.2 (by decide)
    have H1 := hidden hO.1
    have H2 := hidden hO.2.of_drew
    clear hO hW
    simp only [Ord.puts, Ord.prs]
    go_simp
    go_wp2
    go_ret
    exact ⟨rfl, H1.out, H2.out⟩
  case refine_3 => exact Rg.StM.first ⟨fun _ => rfl, fun h => absurd h (by decide)⟩
theorem failX (h : Cd w b s) (hI : Inv s) : Calls Try.prog 12 #[.pointer (some ⟨b, 0, none⟩)] w fun e w' => e = .returned (.tuple #[.bool (chg s (failS s)), .int .i64 0]) ∧ Cd w' b (failS s) ∧ Only [b] w w' := by
  have U := hidden (unmade h hI)
  have C := hidden (count h hI)
  generalize chg s (failS s) = x1 at C ⊢
  clear h hI
  go_enter Try.func12, Try.ntmps12
  go_wp2_with fail
  refine Calls.mono U.out ?_
  rintro e w' ⟨rfl, rfl⟩
  go_wp2_with fail
  refine Calls.mono C.out ?_
  rintro e w1 ⟨rfl, h1, h2⟩
  have H1 := hidden h1
  have H2 := hidden h2
  clear h1 h2
  go_wp2
  go_ret2
  exact ⟨rfl, H1.out, H2.out⟩
theorem goodX (h : Cd w b s) (hI : Inv s) : Calls Try.prog 14 #[.pointer (some ⟨b, 0, none⟩)] w fun e w' => e = .returned (.tuple #[.bool (chg s (goodS s)), .int .i64 0]) ∧ Cd w' b (goodS s) ∧ Only [b] w w' := by
  have U := hidden (unmade h hI)
  have C := hidden (forget h)
  generalize chg s (goodS s) = x1 at C ⊢
  clear h hI
  go_enter Try.func14, Try.ntmps14
  go_wp2_with fail
  refine Calls.mono U.out ?_
  rintro e w' ⟨rfl, rfl⟩
  go_wp2_with fail
  refine Calls.mono C.out ?_
  rintro e w1 ⟨rfl, h1, h2⟩
  have H1 := hidden h1
  have H2 := hidden h2
  clear h1 h2
  go_wp2
  go_ret2
  exact ⟨rfl, H1.out, H2.out⟩
theorem stateX (h : Cd w b s) (hI : Inv s) : Calls Try.prog 13 #[.pointer (some ⟨b, 0, none⟩)] w fun e w' => e = .returned (.int .i64 (stI s)) ∧ Below w.heap.size w w' := by
  have U := hidden (unmade h hI)
  have C := hidden (state h)
  generalize stI s = x1 at C ⊢
  clear h hI
  go_enter Try.func13, Try.ntmps13
  go_wp2_with fail
  refine Calls.mono U.out ?_
  rintro e w' ⟨rfl, rfl⟩
  go_wp2_with fail
  refine Calls.mono C.out ?_
  rintro e w1 ⟨rfl, h1⟩
  have H1 := hidden h1
  clear h1
  go_wp2
  go_ret
  exact ⟨rfl, H1.out⟩
theorem errorsX (h : Cd w b s) (hI : Inv s) : Calls Try.prog 15 #[.pointer (some ⟨b, 0, none⟩)] w fun e w' => e = .returned (.int .i64 s.er) ∧ w = w' := by
  have U := hidden (unmade h hI)
  obtain ⟨er, fl, mx, nu, op, bg, pa, us⟩ := s
  obtain ⟨⟨c0, _⟩, hb⟩ := h.cells
  clear h hI
  go_enter Try.func15, Try.ntmps15
  go_wp2_with fail
  refine Calls.mono U.out ?_
  rintro e w' ⟨rfl, rfl⟩
  go_wp2
  go_ret
  exact ⟨rfl, rfl⟩
/-- a time -/
def tok (n : Int) : Bool := decide (0 ≤ n ∧ n ≤ 1099511627776)
def usedS (s : S) (n : Int) : S := bif tok n then useS s n else s
def usedE (n : Int) : Int := bif tok n then 0 else 1
theorem usedX (h : Cd w b s) (hI : Inv s) (n : Int) : Calls Try.prog 21 #[.pointer (some ⟨b, 0, none⟩), .int .i64 n] w fun e w' => e = .returned (.int .i64 (usedE n)) ∧ Cd w' b (usedS s n) ∧ Only [b] w w' := by
  have U := hidden (unmade h hI)
  have T : Hid (∀ W, Calls Try.prog 23 #[.int .i64 n] W fun e w' => e = .returned (.bool (tok n)) ∧ W = w') := fun W => isTime n W
  have C := hidden (use h n)
  have H := hidden h
  unfold usedS usedE
  clear h hI
  generalize tok n = x0 at T ⊢
  generalize useS s n = s1 at C ⊢
  cases x0
  · go_enter Try.func21, Try.ntmps21
    go_wp2_with fail
    refine Calls.mono U.out ?_
    rintro e w' ⟨rfl, rfl⟩
    go_wp2_with fail
    refine Calls.mono (T.out _) ?_
    rintro e w' ⟨rfl, rfl⟩
    go_wp2
    go_ret
    exact ⟨rfl, H.out, Only.refl _ _⟩
  · go_enter Try.func21, Try.ntmps21
    go_wp2_with fail
    refine Calls.mono U.out ?_
    rintro e w' ⟨rfl, rfl⟩
    go_wp2_with fail
    refine Calls.mono (T.out _) ?_
    rintro e w' ⟨rfl, rfl⟩
    go_wp2_with fail
    refine Calls.mono C.out ?_
    rintro e w1 ⟨rfl, h1, h2⟩
    have H1 := hidden h1
    have H2 := hidden h2
    clear h1 h2
    go_wp2
    go_ret
    exact ⟨rfl, H1.out, H2.out⟩
/-- a timer that may be; what Ask tells -/
def wok (n : Int) : Bool := decide (1 ≤ n ∧ n ≤ 2147483648)
def askE (n : Int) : Int := bif wok n then 0 else 1
def askA (s : S) (n : Int) : Int := bif wok n then min (s.us + n + (if stI s = 2 then 0 else s.pa)) 1099511627776 else 0
theorem askX (h : Cd w b s) (hI : Inv s) (n : Int) : Calls Try.prog 18 #[.pointer (some ⟨b, 0, none⟩), .int .i64 n] w fun e w' => e = .returned (.tuple #[.int .i64 (askA s n), .int .i64 (askE n)]) ∧ Below w.heap.size w w' := by
  have U := hidden (unmade h hI)
  have T : Hid (∀ W, Calls Try.prog 42 #[.int .i64 n] W fun e w' => e = .returned (.bool (wok n)) ∧ W = w') := fun W => isWait n W
  have C := hidden (state h)
  have H := hidden h
  have i1 := hI.us
  have i2 := hI.pa
  have hn : wok n = true → 1 ≤ n ∧ n ≤ 2147483648 := fun h => of_decide_eq_true h
  unfold askA askE
  clear hI
  generalize wok n = x0 at T hn ⊢
  generalize stI s = x1 at C ⊢
  cases x0
  · clear h C H
    simp only [cond_false]
    go_enter Try.func18, Try.ntmps18
    go_wp2_with fail
    refine Calls.mono U.out ?_
    rintro e w' ⟨rfl, rfl⟩
    go_wp2_with fail
    refine Calls.mono (T.out _) ?_
    rintro e w' ⟨rfl, rfl⟩
    go_wp2
    go_ret2
    exact ⟨rfl, Below.refl _ _⟩
  · obtain ⟨n1, n2⟩ := hn rfl
    simp only [cond_true]
    obtain ⟨er, fl, mx, nu, op, bg, pa, us⟩ := s
    simp only at i1 i2 ⊢
    obtain ⟨⟨_, _, _, _, _, _, c6, c7⟩, hb⟩ := h.cells
    clear h hn
    by_cases h2 : x1 = 2
    · subst h2
      go_enter Try.func18, Try.ntmps18
      go_wp2_with fail
      refine Calls.mono U.out ?_
      rintro e w' ⟨rfl, rfl⟩
      go_wp2_with fail
      refine Calls.mono (T.out _) ?_
      rintro e w' ⟨rfl, rfl⟩
      go_wp2_with fail
      refine Calls.mono C.out ?_
      rintro e w1 ⟨rfl, h1⟩
      have H1 := hidden h1
      clear h1 c6 c7
      go_wp2
      go_ret2
      exact ⟨by simp, H1.out⟩
    · have hx : (x1 == 2) = false := beq_eq_false_iff_ne.2 h2
      go_enter Try.func18, Try.ntmps18
      go_wp2_with fail
      refine Calls.mono U.out ?_
      rintro e w' ⟨rfl, rfl⟩
      go_wp2_with fail
      refine Calls.mono (T.out _) ?_
      rintro e w' ⟨rfl, rfl⟩
      go_wp2_with fail
      refine Calls.mono C.out ?_
      rintro e w1 ⟨rfl, h1⟩
      have H1 := hidden h1
      obtain ⟨⟨_, _, _, _, _, _, d6, d7⟩, hb1⟩ := (H.out.later h1).cells
      clear h1 c6 c7
      go_wp2
      go_ret2
      exact ⟨by simp, H1.out⟩
def beatN (s : S) (n : Int) : Int := bif tok n && !s.op then (s.nu + 1) % 4294967296 else 0
def beatE (s : S) (n : Int) : Int := bif tok n then (bif s.op then 111 else 0) else 1
def beatS (s : S) (n : Int) : S := bif tok n && !s.op then begS (useS s n) n else s
set_option maxHeartbeats 400000 in
theorem beatX (h : Cd w b s) (hI : Inv s) (n : Int) : Calls Try.prog 16 #[.pointer (some ⟨b, 0, none⟩), .int .i64 n] w fun e w' => e = .returned (.tuple #[.int .u32 (beatN s n), .int .i64 (beatE s n)]) ∧ Cd w' b (beatS s n) ∧ Only [b] w w' := by
  have U := hidden (unmade h hI)
  have T : Hid (∀ W, Calls Try.prog 23 #[.int .i64 n] W fun e w' => e = .returned (.bool (tok n)) ∧ W = w') := fun W => isTime n W
  have hn : tok n = true → 0 ≤ n ∧ n ≤ 1099511627776 := fun h => of_decide_eq_true h
  have C := hidden (use h n)
  have B : Hid (Inv (useS s n) → ∀ W, Cd W b (useS s n) → Calls Try.prog 39 #[.pointer (some ⟨b, 3, none⟩), .int .i64 n] W fun e w' => e = .returned (.int .u32 ((s.nu + 1) % 4294967296)) ∧ Cd w' b (begS (useS s n) n) ∧ Only [b] W w') := fun hI W h => begin_ h hI n
  have H := hidden h
  have HI := hidden hI
  obtain ⟨s1, hs1⟩ : ∃ s1, s1 = useS s n := ⟨_, rfl⟩
  have hI1 : tok n = true → Hid (Inv s1) := fun h => by rw [hs1]; exact hI.use (hn h)
  rw [← hs1] at B C
  have hop : ∃ x, w.cell? ⟨b, 4, none⟩ = some (.bool x) ∧ x = s.op := ⟨_, Has.cell h 4 rfl, rfl⟩
  obtain ⟨x, c4, hx⟩ := hop
  have hb := Has.lt h
  unfold beatN beatE beatS
  rw [← hx, ← hs1]
  clear h hI hx hs1
  generalize s.nu = nu at B ⊢
  generalize tok n = x0 at T hn hI1 ⊢
  cases x0
  · go_enter Try.func16, Try.ntmps16
    go_wp2_with fail
    refine Calls.mono U.out ?_
    rintro e w' ⟨rfl, rfl⟩
    go_wp2_with fail
    refine Calls.mono (T.out _) ?_
    rintro e w' ⟨rfl, rfl⟩
    go_wp2
    go_ret2
    exact ⟨rfl, H.out, Only.refl _ _⟩
  · have HI1 := hI1 rfl
    clear hI1
    cases x
    · go_enter Try.func16, Try.ntmps16
      go_wp2_with fail
      refine Calls.mono U.out ?_
      rintro e w' ⟨rfl, rfl⟩
      go_wp2_with fail
      refine Calls.mono (T.out _) ?_
      rintro e w' ⟨rfl, rfl⟩
      go_wp2_with fail
      refine Calls.mono C.out ?_
      rintro e w1 ⟨rfl, h1, h2⟩
      have H1 := hidden h1
      have H2 := hidden h2
      clear h1 h2 c4
      go_wp2_with fail
      refine Calls.mono (B.out HI1.out _ H1.out) ?_
      rintro e w2 ⟨rfl, h1, h2⟩
      have H3 := hidden h1
      have H4 := hidden (H2.out.then h2)
      clear h1 h2
      go_wp2
      go_ret2
      exact ⟨rfl, H3.out, H4.out⟩
    · go_enter Try.func16, Try.ntmps16
      go_wp2_with fail
      refine Calls.mono U.out ?_
      rintro e w' ⟨rfl, rfl⟩
      go_wp2_with fail
      refine Calls.mono (T.out _) ?_
      rintro e w' ⟨rfl, rfl⟩
      go_wp2
      go_ret2
      exact ⟨rfl, H.out, Only.refl _ _⟩
/-- what Heard tells; E: how a heartbeat ends -/
def hearA (s : S) (m n : Int) : Int := bif tok n && ansB s m n then n - s.bg else 0
def hearB (s : S) (m n : Int) : Bool := bif tok n && ansB s m n then chg s (goodS s) else false
def hearE (s : S) (m n : Int) : Int := bif tok n then (bif ansB s m n then 0 else 111) else 1
def hearS (E : S → S) (s : S) (m n : Int) : S := bif tok n && ansB s m n then goodS (E s) else s
set_option maxHeartbeats 400000 in
theorem heardX (h : Cd w b s) (hI : Inv s) (m n : Int) : Calls Try.prog 17 #[.pointer (some ⟨b, 0, none⟩), .int .u32 m, .int .i64 n] w fun e w' => e = .returned (.tuple #[.int .i64 (hearA s m n), .bool (hearB s m n), .int .i64 (hearE s m n)]) ∧ Cd w' b (hearS endS s m n) ∧ Only [b] w w' := by
  have U := hidden (unmade h hI)
  have T : Hid (∀ W, Calls Try.prog 23 #[.int .i64 n] W fun e w' => e = .returned (.bool (tok n)) ∧ W = w') := fun W => isTime n W
  have hn : tok n = true → 0 ≤ n ∧ n ≤ 1099511627776 := fun h => of_decide_eq_true h
  have A := hidden (answered h m n)
  have C := hidden (end_ h)
  have F : Hid (∀ W, Cd W b (endS s) → Calls Try.prog 37 #[.pointer (some ⟨b, 0, none⟩)] W fun e w' => e = .returned (.bool (chg s (goodS s))) ∧ Cd w' b (goodS (endS s)) ∧ Only [b] W w') := fun W h => forget h
  have H := hidden h
  have hg := hI.bg
  unfold hearA hearB hearE hearS
  clear h hI
  generalize s.bg = bg at C hg ⊢
  generalize chg s (goodS s) = x3 at F ⊢
  generalize goodS (endS s) = s2 at F ⊢
  generalize endS s = s1 at F C
  generalize tok n = x0 at T hn ⊢
  generalize ansB s m n = x1 at A ⊢
  cases x0
  · go_enter Try.func17, Try.ntmps17
    go_wp2_with fail
    refine Calls.mono U.out ?_
    rintro e w' ⟨rfl, rfl⟩
    go_wp2_with fail
    refine Calls.mono (T.out _) ?_
    rintro e w' ⟨rfl, rfl⟩
    go_wp2
    go_ret3
    exact ⟨rfl, H.out, Only.refl _ _⟩
  · obtain ⟨n1, n2⟩ := hn rfl
    cases x1
    · go_enter Try.func17, Try.ntmps17
      go_wp2_with fail
      refine Calls.mono U.out ?_
      rintro e w' ⟨rfl, rfl⟩
      go_wp2_with fail
      refine Calls.mono (T.out _) ?_
      rintro e w' ⟨rfl, rfl⟩
      go_wp2_with fail
      refine Calls.mono A.out ?_
      rintro e w' ⟨rfl, rfl⟩
      go_wp2
      go_ret3
      exact ⟨rfl, H.out, Only.refl _ _⟩
    · go_enter Try.func17, Try.ntmps17
      go_wp2_with fail
      refine Calls.mono U.out ?_
      rintro e w' ⟨rfl, rfl⟩
      go_wp2_with fail
      refine Calls.mono (T.out _) ?_
      rintro e w' ⟨rfl, rfl⟩
      go_wp2_with fail
      refine Calls.mono A.out ?_
      rintro e w' ⟨rfl, rfl⟩
      go_wp2_with fail
      refine Calls.mono C.out ?_
      rintro e w1 ⟨rfl, h1, h2⟩
      have H1 := hidden h1
      have H2 := hidden h2
      clear h1 h2
      go_wp2_with fail
      refine Calls.mono (F.out _ H1.out) ?_
      rintro e w2 ⟨rfl, h1, h2⟩
      have H3 := hidden h1
      have H4 := hidden (H2.out.then h2)
      clear h1 h2
      go_wp2
      go_ret3
      exact ⟨rfl, H3.out, H4.out⟩
def missB (s : S) : Bool := bif s.op then chg s (failS s) else false
def missE (s : S) : Int := bif s.op then 0 else 111
def missS (E : S → S) (s : S) : S := bif s.op then failS (E s) else s
theorem missedX (h : Cd w b s) (hI : Inv s) : Calls Try.prog 19 #[.pointer (some ⟨b, 0, none⟩)] w fun e w' => e = .returned (.tuple #[.bool (missB s), .int .i64 (missE s)]) ∧ Cd w' b (missS endS s) ∧ Only [b] w w' := by
  have U := hidden (unmade h hI)
  have C := hidden (end_ h)
  have F : Hid (∀ W, Cd W b (endS s) → Calls Try.prog 35 #[.pointer (some ⟨b, 0, none⟩)] W fun e w' => e = .returned (.bool (chg s (failS s))) ∧ Cd w' b (failS (endS s)) ∧ Only [b] W w') := fun W h => count h hI.end
  have H := hidden h
  have hop : ∃ x, w.cell? ⟨b, 4, none⟩ = some (.bool x) ∧ x = s.op := ⟨_, Has.cell h 4 rfl, rfl⟩
  obtain ⟨x, c4, hx⟩ := hop
  have hb := Has.lt h
  unfold missB missE missS
  rw [← hx]
  clear h hI hx
  generalize s.bg = bg at C
  generalize chg s (failS s) = x3 at F ⊢
  generalize failS (endS s) = s2 at F ⊢
  generalize endS s = s1 at F C
  cases x
  · go_enter Try.func19, Try.ntmps19
    go_wp2_with fail
    refine Calls.mono U.out ?_
    rintro e w' ⟨rfl, rfl⟩
    go_wp2
    go_ret2
    exact ⟨rfl, H.out, Only.refl _ _⟩
  · go_enter Try.func19, Try.ntmps19
    go_wp2_with fail
    refine Calls.mono U.out ?_
    rintro e w' ⟨rfl, rfl⟩
    go_wp2_with fail
    refine Calls.mono C.out ?_
    rintro e w1 ⟨rfl, h1, h2⟩
    have H1 := hidden h1
    have H2 := hidden h2
    clear h1 h2 c4
    go_wp2_with fail
    refine Calls.mono (F.out _ H1.out) ?_
    rintro e w2 ⟨rfl, h1, h2⟩
    have H3 := hidden h1
    have H4 := hidden (H2.out.then h2)
    clear h1 h2
    go_wp2
    go_ret2
    exact ⟨rfl, H3.out, H4.out⟩
theorem openX (h : Cd w b s) (hI : Inv s) : Calls Try.prog 20 #[.pointer (some ⟨b, 0, none⟩)] w fun e w' => e = .returned (.tuple #[.int .u32 (bif s.op then s.nu else 0), .int .i64 (bif s.op then s.bg else 0), .bool s.op]) ∧ Below w.heap.size w w' := by
  have U := hidden (unmade h hI)
  obtain ⟨er, fl, mx, nu, op, bg, pa, us⟩ := s
  obtain ⟨⟨_, _, _, c3, c4, c5, _, _⟩, hb⟩ := h.cells
  clear h hI
  simp only
  cases op
  · go_enter Try.func20, Try.ntmps20
    go_wp2_with fail
    refine Calls.mono U.out ?_
    rintro e w' ⟨rfl, rfl⟩
    go_wp2
    go_ret3
    exact ⟨rfl, Below.refl _ _⟩
  · go_enter Try.func20, Try.ntmps20
    go_wp2_with fail
    refine Calls.mono U.out ?_
    rintro e w' ⟨rfl, rfl⟩
    go_wp2
    go_quiet (fail)
    go_wp2
    go_ret3
    exact ⟨rfl, below_drewN _ _⟩
end
end Go.Proofs.Ytfofcaedblhegaa.Pa
