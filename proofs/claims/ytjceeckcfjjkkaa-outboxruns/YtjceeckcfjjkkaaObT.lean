/-
  What came and was given up is marked; what came is acknowledged, freed.
  Conditions: as at each lemma.
-/
import Derived.Test.YtjceeckcfjjkkaaObS
namespace Go.Proofs.Ytjceeckcfjjkkaa.Ob
open Go.ChangeShapes Go.WideShapes Go.ChangeAt Go.RowKit Go.Shelf
open Ba (hidden Has cell_lt heap_lt)
set_option linter.unusedVariables false
attribute [local go_sem] Oper.semAt_some
section
variable {D F : Nat → Prop} {w w' X X' : World} {t f : Nat} {rv : Value} {P : List CV} {nx : Int} {n : Nat} {L L' : List Ch} {i g o : Nat} {x y : Ch} {R ap N tb fb nb : Nat} {fr rn fr' rn' : Int} {ak ak' : Nat → Ak} {tl gd nl : Nat → Bool} {now : Int}
/-- while chunks are turned -/
structure Mn (w : World) (D : Nat → Prop) (X : World) (t f : Nat) (rv : Value) (nx : Int) (n : Nat) (L : List Ch) (R ap tb fb nb : Nat) (fr rn : Int) (ak : Nat → Ak) (tl gd nl : Nat → Bool) : Prop where
  cx : Cx D X t f rv nx n L R ap tb fb nb fr rn ak tl gd nl
  md : Mod (fun k => FC t f rv k ∨ k = R) w X
  bl : ∀ k, FX t f rv R ap k → k < w.heap.size
  b0 : Has X w.heap.size #[.pointer (some ⟨R, 0, none⟩)] 118
theorem Mn.drew (h : Mn w D X t f rv nx n L R ap tb fb nb fr rn ak tl gd nl) : Mn w D X.drew t f rv nx n L R ap tb fb nb fr rn ak tl gd nl := ⟨h.cx.drew, h.md.drewr, h.bl, h.b0⟩
theorem Cx.lst (h : Cx D w t f rv nx n L R ap tb fb nb fr rn ak tl gd nl) (hL : L = L') : Cx D w t f rv nx n L' R ap tb fb nb fr rn ak tl gd nl := by subst hL; exact h
theorem Mn.lst (h : Mn w D X t f rv nx n L R ap tb fb nb fr rn ak tl gd nl) (hL : L = L') : Mn w D X t f rv nx n L' R ap tb fb nb fr rn ak tl gd nl := by subst hL; exact h
theorem Cx.has_of (h : Cx D w t f rv nx n L R ap tb fb nb fr rn ak tl gd nl) (hm : Mod (FC t f rv) w X) (hL : L'.length = L.length) (hN : ∃ P, No D X t f rv P nx n L' (fun k => fl L' k) (Ob.mk L')) : Cx D X t f rv nx n L' R ap tb fb nb fr rn ak tl gd nl := by
  obtain ⟨P0, hN0⟩ := h.no
  obtain ⟨cs, hh⟩ := h.aw.type
  have hR : ¬ FC t f rv R := fun e => by
    obtain ⟨cs', ty', hh', e'⟩ := hN0.type e
    have := has_type h.rh hh'
    rcases e' with rfl | rfl | rfl <;> cases this
  have hA : ¬ FC t f rv ap := fun e => by
    obtain ⟨cs', ty', hh', e'⟩ := hN0.type e
    have := has_type hh hh'
    rcases e' with rfl | rfl | rfl <;> cases this
  exact h.turn (hm.mono (fun k hk => .inl hk)) hL hN (hm.has h.rh hR) (h.aw.stay hm hA)
theorem Mn.box (h : Mn w D X t f rv nx n L R ap tb fb nb fr rn ak tl gd nl) (hm : Mod (FC t f rv) X X') (hL : L'.length = L.length) (hN : ∃ P, No D X' t f rv P nx n L' (fun k => fl L' k) (Ob.mk L')) : Mn w D X' t f rv nx n L' R ap tb fb nb fr rn ak tl gd nl :=
  ⟨h.cx.has_of hm hL hN, h.md.trans hm (fun x hx => .inl (.inl hx)), h.bl, hm.has h.b0 (fun e => by have := h.bl _ (.inl e); omega)⟩
/-- the report's own numbers -/
theorem Mn.rep (h : Mn w D X t f rv nx n L R ap tb fb nb fr rn ak tl gd nl) {c : Nat} {u : Value} (hq : (#[.slice (some ⟨ap, 0, none⟩) n n, .int .i64 fr, .int .i64 rn, .pointer (some ⟨t, 0, none⟩), .slice (some ⟨tb, 0, none⟩) L.length L.length, .slice (some ⟨fb, 0, none⟩) L.length L.length, .slice (some ⟨nb, 0, none⟩) L.length L.length] : Array Value).setIfInBounds c u = #[.slice (some ⟨ap, 0, none⟩) n n, .int .i64 fr', .int .i64 rn', .pointer (some ⟨t, 0, none⟩), .slice (some ⟨tb, 0, none⟩) L.length L.length, .slice (some ⟨fb, 0, none⟩) L.length L.length, .slice (some ⟨nb, 0, none⟩) L.length L.length]) :
    Mn w D (X.setCell ⟨R, c, none⟩ u) t f rv nx n L R ap tb fb nb fr' rn' ak tl gd nl := by
  have hm : Mod (fun k => k = R) X (X.setCell ⟨R, c, none⟩ u) := Mod.setCell (F := fun k => k = R) X (p := ⟨R, c, none⟩) rfl _
  obtain ⟨P, hN⟩ := h.cx.no
  obtain ⟨cs, hh⟩ := h.cx.aw.type
  have hr := h.cx.rh.set c u
  rw [hq] at hr
  refine ⟨h.cx.turn (hm.mono (fun k hk => .inr (.inl hk))) rfl ⟨P, hN.stay hm (fun k hk e => ?_) (fun k cur _ h5 e => by subst e; exact h5.ne h.cx.rh (by decide) rfl)⟩ hr (h.cx.aw.stay hm (fun e => hh.ne h.cx.rh (by decide) e)), h.md.trans hm (fun x hx => .inl (.inr hx)), h.bl, hm.has h.b0 (fun e => by have := h.bl R (.inr (.inl rfl)); omega)⟩
  subst e
  obtain ⟨cs', ty', hh', e'⟩ := hN.type hk
  have := has_type h.cx.rh hh'
  rcases e' with rfl | rfl | rfl <;> cases this
theorem Mn.calm {B : Nat} (h : Mn w D X t f rv nx n L R ap tb fb nb fr rn ak tl gd nl) (hc : Calm B X X') (hB : w.heap.size ≤ B) : Mn w D X' t f rv nx n L R ap tb fb nb fr rn ak tl gd nl :=
  ⟨h.cx.calm hc, hc.mod h.md hB, h.bl, hc.has h.b0⟩
theorem Mod.keeps {F : Nat → Prop} {B : Nat} (hm : Mod F X X') (hF : ∀ k, F k → k < B) : KeepsFrom B X X' := keeps_mod hm (fun k hk => .inl (hF k hk))
theorem f3_two (tl : Nat → Bool) (i : Nat) (x : Ch) : (f3 tl i x).p.d = x.p.d ∧ (f3 tl i x).pa = x.pa := by unfold f3; split <;> exact ⟨rfl, rfl⟩
theorem f4_two (nl gd : Nat → Bool) (i : Nat) (x : Ch) : (f4 nl gd i x).p.d = x.p.d ∧ (f4 nl gd i x).pa = x.pa := by
  unfold f4; split <;> (try unfold f4a) <;> (try split) <;> exact ⟨rfl, rfl⟩
set_option maxHeartbeats 2000000 in
theorem markReneged (h : Cx D w t f rv nx n L R ap tb fb nb fr rn ak tl gd nl) (hk : Lk n L) (hrn : rn = 0) :
    Calls Try.prog 83 #[.pointer (some ⟨R, 0, none⟩)] w fun e w' => e = .returned (.tuple #[]) ∧ Cx D w' t f rv nx n (L3 tl L) R ap tb fb nb fr (rnV tl L) ak tl gd nl ∧ Mod (fun k => FC t f rv k ∨ k = R) w w' := by
  refine (callsIn_wide (n := 10)).1 ?_
  subst hrn
  have c3 := h.rh.cell 3 rfl
  have hRl := h.rh.lt
  obtain ⟨W1, hW1⟩ : ∃ W1, W1 = w.alloc (.cells #[.pointer (some ⟨R, 0, none⟩)] 118) := ⟨_, rfl⟩
  have hBw : Below w.heap.size w W1 := by rw [hW1]; exact (Below.refl _ w).alloc (Nat.le_refl _) _
  have hs1 : W1.heap.size = w.heap.size + 1 := by rw [hW1]; simp
  have HF : Hid (Mn w D W1 t f rv nx n L R ap tb fb nb fr 0 ak tl gd nl) :=
    ⟨h.later hBw, Mod.of_below hBw, fun k hk => h.lt hk, by rw [hW1]; exact Has.new w _ _⟩
  have HW1 := hidden hW1
  have HS1 := hidden hs1
  have HK := hidden hk
  have HROW := hidden (row_len h.no)
  clear h hk hW1 hBw hs1
  refine callsIn_of_wp_marks Try.func83 rfl trivial ?_ rfl
  simp only [Try.ntmps83, List.size_toArray, List.length_cons, List.length_nil, Nat.reduceAdd, Nat.reduceSub, Array.replicate_succ, Array.replicate_zero, List.push_toArray, List.append_toArray, List.nil_append, List.cons_append]
  gi_wp2_with fail
  rw [← HW1.out]
  refine range_each (t := t) (rv := rv) (n := L.length) rfl HROW.out (by have := HK.out.1; omega)
    (fun k W => Mn w D W t f rv nx n (up k (f3 tl) L) R ap tb fb nb fr (sI (rnF tl) L k) ak tl gd nl)
    (fun W => False) (fun k W hI => by obtain ⟨P', hN⟩ := hI.cx.no; exact hN.q.cell 0 rfl)
    (fun k W W' hI hc => hI.calm hc (by have := HS1.out; omega))
    (fun W W' hI hc => hI.elim)
    (HF.out.lst up_zero.symm)
    ?round ?done (fun D W _ hI _ => hI.elim)
  case done =>
    rintro Dd W hD hI hdef
    have G := hidden hI
    clear hI
    gi_wp2
    refine ⟨by simp, .inl ⟨_, _, rfl, run_takeDeferred hdef, ?_⟩⟩
    have hc := Calm.put (B := W1.heap.size) (.deferred none) hD hdef rfl
    have h2 := G.out.calm hc (by have := HS1.out; omega)
    exact ⟨_, results_none rfl _ _ _, rfl, h2.cx.lst up_full, h2.md⟩
  case round =>
    intro l k W hk hi
    gi_wp2
    first | refine ⟨trivial, fun W3 hI3 => ?_⟩ | intro W3 hI3
    have HI3 := hidden hI3
    obtain ⟨P3, hN3⟩ := hI3.cx.no
    obtain ⟨x, hx⟩ : ∃ x, L[k]? = some x := ⟨_, List.getElem?_eq_getElem hk⟩
    obtain ⟨g, o, hp, he⟩ := hN3.place (k := k) (by rw [up_len]; exact hk)
    rw [he]
    have HX := hidden hx
    have HP := hidden hp
    obtain ⟨v3, hcl, _, hgl, _⟩ := hN3.chunk hp (up_here hx)
    have c6 := hcl 6 _ rfl
    simp only at c6
    have d0 := hI3.b0.cell 0 rfl
    have d4 := hI3.cx.rh.cell 4 rfl
    have dt := hI3.cx.tb_.cell (j := k) (by rw [up_len]; exact hk)
    have hlk := HK.out.up k (fun i x => f3_two tl i x)
    have hlen : (up k (f3 tl) L).length = L.length := up_len _ _ _
    have hsb := sI_bound (f := rnF tl) (B := 65536) (by decide) L k (fun i y _ hy => by
      have h1 := (HK.out.2 y (List.mem_of_getElem? hy)).1
      unfold rnF sz
      split <;> omega)
    have hnl := HK.out.1
    have hz0 := sz_nn x
    have hz1 : sz x ≤ 65536 := by have := (HK.out.2 x (List.mem_of_getElem? hx)).1; unfold sz; omega
    have hk' : (k : Int) < (L.length : Int) := by omega
    rw [hlen] at d4
    have HSS := sI_succ (f := rnF tl) hx
    have HLK := hidden hlk
    have HLEN := hidden hlen
    have HKK := hidden hk
    have HRN : Hid (rnF tl k x = if x.st = 3 ∧ tl k = false then sz x else 0) := rfl
    have HF3 : Hid (f3 tl k x = if x.st = 3 ∧ tl k = false then { x with st := 2, mi := 0 } else x) := rfl
    have SZ : Hid (Calls Try.prog 89 #[.pointer (some ⟨g, o, none⟩)] W3.drew fun e w' => e = .returned (.int .i64 (sz x)) ∧ W3.drew = w') := size hN3.drew hp (up_here hx)
    have ES : Hid (∀ (args : Array Value) (w : World), (callFunc 89 args).run Try.prog w = .ok (.enter 89 args) w) := enters_of Try.func89 (by kernel_rfl) rfl
    have C0 : Hid (W3.drew.cell? ⟨w.heap.size, 0, none⟩ = some (.pointer (some ⟨R, 0, none⟩))) := d0
    have CY0 : W3.drew.cell? ⟨R, 2, none⟩ = some (.int .i64 (sI (rnF tl) L k)) := hI3.cx.rh.cell 2 rfl
    have hRf : W3.drew.frozen? ⟨R, 2, none⟩ = false := hI3.cx.rh.frozen 2
    generalize hy : sI (rnF tl) L k = y at *
    generalize hz : sz x = z at *
    have HW2 : Hid (IntKind.i64.wrap (y + z) = y + z) := by show _ = _; rw [IntKind.wrap_i64]; omega
    have CY := hidden CY0
    have HST : Hid ((Instr.storeAt 3 (.pointer (some ⟨R, 2, none⟩)) (.int .i64 (y + z))).run Try.prog W3.drew = .ok () (W3.drew.setCell ⟨R, 2, none⟩ (.int .i64 (y + z)))) := st_int (w := W3.drew) (y + z) CY0 hRf
    generalize hN : L.length = N at *
    have HSI := hidden HSS
    have HZ := hidden (And.intro hy (And.intro hz hN))
    generalize hst : x.st = st at *
    generalize htk : tl k = u at *
    have HTU := hidden (And.intro hst htk)
    have stay : st ≠ 3 ∨ u = true → Hid (Mn w D W3 t f rv nx n (up (k + 1) (f3 tl) L) R ap tb fb nb fr (sI (rnF tl) L (k + 1)) ak tl gd nl) := fun hc => by
      have e1 : ¬ (st = 3 ∧ u = false) := fun e => by
        rcases hc with h | h
        · exact h e.1
        · rw [h] at e; cases e.2
      have h3 := HF3.out
      have h4 := HRN.out
      rw [if_neg e1] at h3 h4
      rw [HSI.out, h4, Int.add_zero, up_same HX.out h3]
      exact HI3.out
    clear hI3 hN3 hx hp he hcl hk hi hlk hlen hsb hnl hz0 hz1 HSS hy hz hN hst htk CY0 hRf
    by_cases h3 : st = 3
    · subst h3
      cases u with
      | true =>
        have G := stay (.inr rfl)
        clear stay
        gi_wp2
        exact ⟨KeepsFrom.refl _ _, G.out⟩
      | false =>
        clear stay
        gi_wp2_with fail
        rename_i hK
        clear d0 d4 dt c6
        refine Ord.wp_region_exR (X := Unit) (by kernel_rfl) 44 (fun x => [(some 27, .pointer (some ⟨R, 0, none⟩)), (some 28, .pointer (some ⟨R, 0, none⟩)), (some 29, .pointer (some ⟨R, 0, none⟩)), (some 30, .pointer (some ⟨R, 2, none⟩)), (some 31, .int .i64 y), (some 32, .pointer (some ⟨g, o, none⟩)), (some 33, .int .i64 z), (some 34, .int .i64 (y + z)), (some 35, .pointer (some ⟨R, 0, none⟩)), (some 36, .pointer (some ⟨R, 0, none⟩)), (some 37, .pointer (some ⟨R, 2, none⟩)), (none, undef)]) [some 27, some 28, some 29, some 30, some 31, some 32, some 33, some 34, some 35, some 36, some 37, none] rfl (fun listed hsz hr => Ord.all_listedC (rank := [0, 1, 2, 3, 4, 5, 6, 7, 8, 9, 10, 11]) (by kernel_rfl) hsz hr) (by rfl) (fun _ => rfl) (by kernel_rfl) (Rg.StM [11] (fun skk sxx w' => (skk = 0 → w' = W3.drew) ∧ (skk = 1 → w' = W3.drew.setCell ⟨R, 2, none⟩ (.int .i64 (y + z))))) (fun _ _ _ _ hL h => h.ext (n := 12) (by decide) hL) ?_ ?_ () ?_
        case refine_1 =>
          intro x Lq iq oq ac w' ho hi hcl hdep hF hW
          have f1 : ac.tmps.size = 44 := hF.1
          match iq, ho, hi, hdep with
          | 0, ho, hi, hdep =>
            cases ho
            have da0 : ac.eval (.tmp 1) = .pointer (some ⟨w.heap.size, 0, none⟩) := hF.old 1 rfl
            obtain ⟨kq, hlo, hhi, hA⟩ := hW.range 0 0 (.inl rfl) (.inr ⟨11, rfl, (Rg.no_of (fun h => hcl 11 _ rfl (h) ⟨0, .phase⟩ (by simp) rfl) hi)⟩)
            exact Ord.ex_value x rfl rfl (Rg.load da0 rfl (by rw [hA.1 (by omega)]; simp [go_sem, C0.out])) rfl (hW.keep (by decide))
          | 1, ho, hi, hdep =>
            cases ho
            have da0 : ac.eval (.tmp 27) = .pointer (some ⟨R, 0, none⟩) := hF.2.2.2 0 27 _ rfl (hdep ⟨0, .data⟩ (by simp) rfl)
            exact Ord.ex_value x rfl rfl (Rg.nilc da0 rfl) rfl (hW.keep (by decide))
          | 2, ho, hi, hdep =>
            cases ho
            have da0 : ac.eval (.tmp 28) = .pointer (some ⟨R, 0, none⟩) := hF.2.2.2 1 28 _ rfl (hdep ⟨1, .data⟩ (by simp) rfl)
            exact Ord.ex_value x rfl rfl (Rg.fa da0 rfl (by simp [go_sem])) rfl (hW.keep (by decide))
          | 3, ho, hi, hdep =>
            cases ho
            have da0 : ac.eval (.tmp 29) = .pointer (some ⟨R, 0, none⟩) := hF.2.2.2 2 29 _ rfl (hdep ⟨2, .data⟩ (by simp) rfl)
            exact Ord.ex_value x rfl rfl (Rg.fa da0 rfl (by simp [go_sem])) rfl (hW.keep (by decide))
          | 4, ho, hi, hdep =>
            cases ho
            have da0 : ac.eval (.tmp 30) = .pointer (some ⟨R, 2, none⟩) := hF.2.2.2 3 30 _ rfl (hdep ⟨3, .data⟩ (by simp) rfl)
            obtain ⟨kq, hlo, hhi, hA⟩ := hW.range 0 0 (.inl rfl) (.inr ⟨11, rfl, (Rg.no_of (fun h => hcl 11 _ rfl (h) ⟨4, .phase⟩ (by simp) rfl) hi)⟩)
            exact Ord.ex_value x rfl rfl (Rg.load da0 rfl (by rw [hA.1 (by omega)]; simp [go_sem, CY.out])) rfl (hW.keep (by decide))
          | 5, ho, hi, hdep =>
            cases ho
            have da0 : ac.eval (.tmp 3) = .pointer (some ⟨g, o, none⟩) := hF.old 3 rfl
            exact Ord.ex_value x rfl rfl (Rg.mv da0 rfl) rfl (hW.keep (by decide))
          | 6, ho, hi, hdep =>
            cases ho
            have da0 : ac.eval (.tmp 32) = .pointer (some ⟨g, o, none⟩) := hF.2.2.2 5 32 _ rfl (hdep ⟨5, .data⟩ (by simp) rfl)
            obtain ⟨kq, hlo, hhi, hA⟩ := hW.range 0 0 (.inl rfl) (.inr ⟨11, rfl, (Rg.no_of (fun h => hcl 11 _ rfl (h) ⟨6, .chain⟩ (by simp) rfl) hi)⟩)
            have hw := hA.1 (by omega)
            subst hw
            exact Rg.ex_call x rfl rfl (Rg.enter (args := #[.pointer (some ⟨g, o, none⟩)]) rfl rfl (by simp [da0]) ES.out) (Calls.mono SZ.out (by rintro e w2 ⟨rfl, rfl⟩; exact ⟨rfl, (hW.keep (by decide))⟩))
          | 7, ho, hi, hdep =>
            cases ho
            have da0 : ac.eval (.tmp 31) = .int .i64 y := hF.2.2.2 4 31 _ rfl (hdep ⟨4, .data⟩ (by simp) rfl)
            have da1 : ac.eval (.tmp 33) = .int .i64 z := hF.2.2.2 6 33 _ rfl (hdep ⟨6, .data⟩ (by simp) rfl)
            exact Ord.ex_value x rfl rfl (Rg.bin da0 da1 rfl (by simp [go_sem, HW2.out])) rfl (hW.keep (by decide))
          | 8, ho, hi, hdep =>
            cases ho
            have da0 : ac.eval (.tmp 27) = .pointer (some ⟨R, 0, none⟩) := hF.2.2.2 0 27 _ rfl (hdep ⟨0, .data⟩ (by simp) rfl)
            exact Ord.ex_value x rfl rfl (Rg.nilc da0 rfl) rfl (hW.keep (by decide))
          | 9, ho, hi, hdep =>
            cases ho
            have da0 : ac.eval (.tmp 35) = .pointer (some ⟨R, 0, none⟩) := hF.2.2.2 8 35 _ rfl (hdep ⟨8, .data⟩ (by simp) rfl)
            exact Ord.ex_value x rfl rfl (Rg.fa da0 rfl (by simp [go_sem])) rfl (hW.keep (by decide))
          | 10, ho, hi, hdep =>
            cases ho
            have da0 : ac.eval (.tmp 36) = .pointer (some ⟨R, 0, none⟩) := hF.2.2.2 9 36 _ rfl (hdep ⟨9, .data⟩ (by simp) rfl)
            exact Ord.ex_value x rfl rfl (Rg.fa da0 rfl (by simp [go_sem])) rfl (hW.keep (by decide))
          | 11, ho, hi, hdep =>
            cases ho
            have da0 : ac.eval (.tmp 37) = .pointer (some ⟨R, 2, none⟩) := hF.2.2.2 10 37 _ rfl (hdep ⟨10, .data⟩ (by simp) rfl)
            have da1 : ac.eval (.tmp 34) = .int .i64 (y + z) := hF.2.2.2 7 34 _ rfl (hdep ⟨7, .data⟩ (by simp) rfl)
            have hA := hW.at (k := 0) rfl hi (.inl rfl)
            have hw := hA.1 rfl
            subst hw
            exact Rg.ex_skip x rfl rfl (Rg.sto da0 da1 rfl HST.out) rfl (hW.next (k := 0) rfl (by decide) hi (.inl rfl) ⟨fun e => absurd e (by decide), fun _ => rfl⟩)
        case refine_3 => exact Rg.StM.first ⟨fun _ => rfl, fun e => absurd e (by decide)⟩
        case refine_2 =>
          intro v' w2 hW
          have hA := hW.last
          have hw2 := hA.2 rfl
          subst hw2
          clear hW hA
          simp only [Ord.puts, Ord.prs]
          go_simp
          refine hK _ _ ?_
          clear hK CY HST HW2 C0
          obtain ⟨W6, hW6⟩ : ∃ W6, W6 = (W3.setCell ⟨R, 2, none⟩ (.int .i64 (y + z))).drew := ⟨_, rfl⟩
          have G6 : Hid (Mn w D W6 t f rv nx n (up k (f3 tl) L) R ap tb fb nb fr (y + z) ak tl gd nl ∧ Mod (fun k => FC t f rv k ∨ k = R) W3 W6) := by
            rw [hW6, show (W3.setCell ⟨R, 2, none⟩ (.int .i64 (y + z))).drew = W3.drew.setCell ⟨R, 2, none⟩ (.int .i64 (y + z)) from rfl]
            exact ⟨HI3.out.drew.rep rfl, (Mod.refl (fun k => FC t f rv k ∨ k = R) W3).drewr.set (p := ⟨R, 2, none⟩) (.inr rfl) _⟩
          rw [← hW6]
          clear hW6 SZ ES
          obtain ⟨P6, hN6⟩ := G6.out.1.cx.no
          have MK := hidden (mark hN6 HLK.out HP.out (up_here HX.out))
          have d0 := G6.out.1.b0.cell 0 rfl
          have d3 := G6.out.1.cx.rh.cell 3 rfl
          clear hN6
          gi_wp2_with fail
          refine ⟨trivial, (CallsIn.inRound l (callsIn_wide.2 MK.out)).mono ?_⟩
          rintro e w4 ⟨rfl, hP4, hm4⟩
          have G : Hid (Mn w D w4 t f rv nx n (up (k + 1) (f3 tl) L) R ap tb fb nb fr (sI (rnF tl) L (k + 1)) ak tl gd nl ∧ KeepsFrom W1.heap.size W3 w4) := by
            have h3 := HF3.out
            have h4 := HRN.out
            simp only [and_self, if_true] at h3 h4
            have hs : ({ x with st := 2, mi := 0 } : Ch) = f3 tl k x := by rw [h3]
            rw [hs, up_set HX.out] at hP4
            rw [HSI.out, h4]
            exact ⟨G6.out.1.box hm4 (by rw [up_len, up_len]) hP4, KeepsFrom.trans (G6.out.2.keeps (fun k hk => by have := HI3.out.bl k (hk.elim .inl (fun e => .inr (.inl e))); have := HS1.out; omega)) (hm4.keeps (fun k hk => by have := HI3.out.bl k (.inl hk); have := HS1.out; omega))⟩
          clear hP4 hm4
          gi_wp2
          exact ⟨G.out.2, G.out.1⟩
    · have h3b : (st == 3) = false := by simp [h3]
      have G := stay (.inl h3)
      clear stay
      gi_wp2
      exact ⟨KeepsFrom.refl _ _, G.out⟩
end
end Go.Proofs.Ytjceeckcfjjkkaa.Ob
