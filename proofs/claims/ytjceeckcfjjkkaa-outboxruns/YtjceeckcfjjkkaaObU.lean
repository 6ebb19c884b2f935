/-
  What came is acknowledged, what came for good is freed.
  Conditions: as at each lemma.
-/
import Derived.Test.YtjceeckcfjjkkaaObT
namespace Go.Proofs.Ytjceeckcfjjkkaa.Ob
open Go.ChangeShapes Go.WideShapes Go.ChangeAt Go.RowKit Go.Shelf
open Ba (hidden Has cell_lt heap_lt)
set_option linter.unusedVariables false
attribute [local go_sem] Oper.semAt_some
section
variable {D F : Nat → Prop} {w w' X X' : World} {t f : Nat} {rv : Value} {P : List CV} {nx : Int} {n : Nat} {L L' : List Ch} {i g o : Nat} {x y : Ch} {R ap N tb fb nb : Nat} {fr rn fr' rn' : Int} {ak ak' : Nat → Ak} {tl gd nl : Nat → Bool} {now : Int}
set_option maxHeartbeats 2000000 in
theorem freeCame (h : Cx D w t f rv nx n L R ap tb fb nb fr rn ak tl gd nl) (hk : Lk n L) (hfr : fr = 0) :
    Calls Try.prog 84 #[.pointer (some ⟨R, 0, none⟩)] w fun e w' => e = .returned (.tuple #[]) ∧ Cx D w' t f rv nx n (L.mapIdx (f4 nl gd)) R ap tb fb nb (sI (frF nl gd) L L.length) rn ak tl gd nl ∧ Mod (fun k => FC t f rv k ∨ k = R) w w' := by
  refine (callsIn_wide (n := 10)).1 ?_
  subst hfr
  have c3 := h.rh.cell 3 rfl
  have hRl := h.rh.lt
  obtain ⟨W1, hW1⟩ : ∃ W1, W1 = w.alloc (.cells #[.pointer (some ⟨R, 0, none⟩)] 118) := ⟨_, rfl⟩
  have hBw : Below w.heap.size w W1 := by rw [hW1]; exact (Below.refl _ w).alloc (Nat.le_refl _) _
  have hs1 : W1.heap.size = w.heap.size + 1 := by rw [hW1]; simp
  have HF : Hid (Mn w D W1 t f rv nx n L R ap tb fb nb 0 rn ak tl gd nl) :=
    ⟨h.later hBw, Mod.of_below hBw, fun k hk => h.lt hk, by rw [hW1]; exact Has.new w _ _⟩
  have HW1 := hidden hW1
  have HS1 := hidden hs1
  have HK := hidden hk
  have HROW := hidden (row_len h.no)
  clear h hk hW1 hBw hs1
  refine callsIn_of_wp_marks Try.func84 rfl trivial ?_ rfl
  simp only [Try.ntmps84, List.size_toArray, List.length_cons, List.length_nil, Nat.reduceAdd, Nat.reduceSub, Array.replicate_succ, Array.replicate_zero, List.push_toArray, List.append_toArray, List.nil_append, List.cons_append]
  gi_wp2_with fail
  rw [← HW1.out]
  refine range_each (t := t) (rv := rv) (n := L.length) rfl HROW.out (by have := HK.out.1; omega)
    (fun k W => Mn w D W t f rv nx n (up k (f4 nl gd) L) R ap tb fb nb (sI (frF nl gd) L k) rn ak tl gd nl)
    (fun W => False) (fun k W hI => by obtain ⟨P', hN⟩ := hI.cx.no; exact hN.q.cell 0 rfl)
    (fun k W W' hI hc => hI.calm hc (by have := HS1.out; omega))
    (fun W W' hI hc => hI.elim)
    (HF.out.lst up_zero.symm)
    ?round ?done (fun D W _ hI _ => hI.elim)
  case done =>
    rintro Dd W hD hI hdef
    have G := hidden hI
    clear hI
    gi_wp2
    refine ⟨by simp, .inl ⟨_, _, rfl, run_takeDeferred hdef, ?_⟩⟩
    have hc := Calm.put (B := W1.heap.size) (.deferred none) hD hdef rfl
    have h2 := G.out.calm hc (by have := HS1.out; omega)
    exact ⟨_, results_none rfl _ _ _, rfl, h2.cx.lst up_full, h2.md⟩
  case round =>
    intro l k W hk hi
    gi_wp2
    first | refine ⟨trivial, fun W3 hI3 => ?_⟩ | intro W3 hI3
    have HI3 := hidden hI3
    obtain ⟨P3, hN3⟩ := hI3.cx.no
    obtain ⟨x, hx⟩ : ∃ x, L[k]? = some x := ⟨_, List.getElem?_eq_getElem hk⟩
    obtain ⟨g, o, hp, he⟩ := hN3.place (k := k) (by rw [up_len]; exact hk)
    rw [he]
    have HX := hidden hx
    have HP := hidden hp
    have d0 := hI3.b0.cell 0 rfl
    have d3 := hI3.cx.rh.cell 3 rfl
    have d6 := hI3.cx.rh.cell 6 rfl
    have dn := hI3.cx.nb_.cell (j := k) (by rw [up_len]; exact hk)
    have hlk := HK.out.up k (fun i x => f4_two nl gd i x)
    have hlen : (up k (f4 nl gd) L).length = L.length := up_len _ _ _
    have hxx := HK.out.2 x (List.mem_of_getElem? hx)
    have HLKS : Hid (∀ y : Ch, y.p = x.p → y.pa = x.pa → Lk n ((up k (f4 nl gd) L).set k y)) := fun y h1 h2 => hlk.set (x := x) (by rw [h1]; exact hxx.1) (by rw [h2]; exact hxx.2.1) (by rw [h2]; exact hxx.2.2)
    have hsb := sI_bound (f := frF nl gd) (B := 65536) (by decide) L k (fun i y _ hy => by
      have h1 := (HK.out.2 y (List.mem_of_getElem? hy)).1
      unfold frF sz
      split <;> omega)
    have hnl := HK.out.1
    have hz0 := sz_nn x
    have hz1 : sz x ≤ 65536 := by have := hxx.1; unfold sz; omega
    have hk' : (k : Int) < (L.length : Int) := by omega
    rw [hlen] at d6
    have HSS := sI_succ (f := frF nl gd) hx
    have TA := hidden (turn hN3 hlk hp (up_here hx) 3)
    have HLEN := hidden hlen
    have HKK := hidden hk
    have HF4A0 : Hid (f4a nl k x = if nl k = true then { x with st := 3 } else x) := rfl
    have ES : Hid (∀ (args : Array Value) (w : World), (callFunc 89 args).run Try.prog w = .ok (.enter 89 args) w) := enters_of Try.func89 (by kernel_rfl) rfl
    generalize hy : sI (frF nl gd) L k = y at *
    generalize hz : sz x = z at *
    have HW2 : Hid (IntKind.i64.wrap (y + z) = y + z) := by show _ = _; rw [IntKind.wrap_i64]; omega
    generalize hN : L.length = N at *
    have HSI := hidden HSS
    have HZ := hidden (And.intro hy hz)
    have HLEN2 : Hid (∀ y : Ch, ((up k (f4 nl gd) L).set k y).length = N) := fun y => by rw [List.length_set]; exact HLEN.out
    generalize hu : nl k = u at *
    clear hI3 hN3 hx hp he hk hi hlk hlen hsb hnl hz0 hz1 HSS hy hz hN hxx
    cases u with
    | true =>
      have HF4A : Hid (f4a nl k x = { x with st := 3 }) := HF4A0.out
      gi_wp2_with fail
      refine ⟨trivial, (CallsIn.inRound l (callsIn_wide.2 TA.out)).mono ?_⟩
      rintro e W4 ⟨rfl, hP4, hm4⟩
      have G4 : Hid (Mn w D W4 t f rv nx n ((up k (f4 nl gd) L).set k { x with st := 3 }) R ap tb fb nb y rn ak tl gd nl ∧ KeepsFrom W1.heap.size W3 W4) :=
        ⟨HI3.out.box hm4 (by rw [List.length_set]) hP4, hm4.keeps (fun k hk => by have := HI3.out.bl k (.inl hk); have := HS1.out; omega)⟩
      clear hP4 hm4 TA d0 d3 d6 dn
      obtain ⟨P4, hN4⟩ := G4.out.1.cx.no
      have hi4 := set_at (y := { x with st := 3 }) (up_here (k := k) (f := f4 nl gd) HX.out)
      obtain ⟨v4, hcl4, _, hgl4, _⟩ := hN4.chunk HP.out hi4
      have c6 := hcl4 6 _ rfl
      simp only at c6
      have d0 := G4.out.1.b0.cell 0 rfl
      have d3 := G4.out.1.cx.rh.cell 3 rfl
      have d5 := G4.out.1.cx.rh.cell 5 rfl
      rw [HLEN2.out _] at d5
      have dt := G4.out.1.cx.fb_.cell (j := k) (by rw [HLEN2.out _]; exact HKK.out)
      have TN := hidden (turn hN4 (HLKS.out { x with st := 3 } rfl rfl) HP.out hi4 4)
      rw [set_set] at TN
      have HF4 : Hid (f4 nl gd k x = if gd k = true ∧ (f4a nl k x).st = 3 then { x with st := 4 } else f4a nl k x) := rfl
      have HFR : Hid (frF nl gd k x = if gd k = true ∧ (f4a nl k x).st = 3 then sz x else 0) := rfl
      rw [HF4A.out] at HF4 HFR
      generalize hgd : gd k = v at *
      have stay : v = false ∨ (3 : Int) ≠ 3 → Hid (Mn w D W4 t f rv nx n (up (k + 1) (f4 nl gd) L) R ap tb fb nb (sI (frF nl gd) L (k + 1)) rn ak tl gd nl ∧ KeepsFrom W1.heap.size W3 W4) := fun hc => by
        have e1 : ¬ (v = true ∧ ({ x with st := 3 }).st = 3) := fun e => by
          rcases hc with h | h
          · rw [h] at e; cases e.1
          · exact h e.2
        have h3 := HF4.out
        have h4 := HFR.out
        rw [if_neg e1] at h3 h4
        have h5 := G4.out.1
        rw [← h3, up_set HX.out] at h5
        rw [HSI.out, h4, Int.add_zero]
        exact ⟨h5, G4.out.2⟩
      clear hN4 hcl4 hi4
      cases v with
      | false =>
        have G := stay (.inl rfl)
        clear stay
        gi_wp2
        exact ⟨G.out.2, G.out.1⟩
      | true =>
        clear stay
        gi_wp2_with fail
        refine ⟨trivial, (CallsIn.inRound l (callsIn_wide.2 TN.out)).mono ?_⟩
        rintro e W5 ⟨rfl, hP5, hm5⟩
        have G5 : Hid (Mn w D W5 t f rv nx n ((up k (f4 nl gd) L).set k { { x with st := 3 } with st := 4 }) R ap tb fb nb y rn ak tl gd nl ∧ KeepsFrom W1.heap.size W3 W5) :=
          ⟨G4.out.1.box hm5 (by rw [List.length_set, List.length_set]) hP5, KeepsFrom.trans G4.out.2 (hm5.keeps (fun k hk => by have := G4.out.1.bl k (.inl hk); have := HS1.out; omega))⟩
        obtain ⟨P5, hN5⟩ := G5.out.1.cx.no
        have SZ : Hid (Calls Try.prog 89 #[.pointer (some ⟨g, o, none⟩)] W5.drew fun e w' => e = .returned (.int .i64 z) ∧ W5.drew = w') := by
          have := size hN5.drew HP.out (set_at (y := { { x with st := 3 } with st := 4 }) (up_here (k := k) (f := f4 nl gd) HX.out))
          have hz : sz { { x with st := 3 } with st := 4 } = z := HZ.out.2
          rw [hz] at this
          exact this
        have C0 : Hid (W5.drew.cell? ⟨w.heap.size, 0, none⟩ = some (.pointer (some ⟨R, 0, none⟩))) := G5.out.1.b0.cell 0 rfl
        have CY : Hid (W5.drew.cell? ⟨R, 1, none⟩ = some (.int .i64 y)) := G5.out.1.cx.rh.cell 1 rfl
        have HST : Hid ((Instr.storeAt 3 (.pointer (some ⟨R, 1, none⟩)) (.int .i64 (y + z))).run Try.prog W5.drew = .ok () (W5.drew.setCell ⟨R, 1, none⟩ (.int .i64 (y + z)))) := st_int (w := W5.drew) (y + z) CY.out (G5.out.1.cx.rh.frozen 1)
        clear hP5 hm5 hN5 TN c6 d0 d3 d5 dt
        gi_wp2_with fail
        refine Ord.wp_region_exR (X := Unit) (by kernel_rfl) 56 (fun x => [(some 45, .pointer (some ⟨R, 0, none⟩)), (some 46, .pointer (some ⟨R, 0, none⟩)), (some 47, .pointer (some ⟨R, 0, none⟩)), (some 48, .pointer (some ⟨R, 1, none⟩)), (some 49, .int .i64 y), (some 50, .pointer (some ⟨g, o, none⟩)), (some 51, .int .i64 z), (some 52, .int .i64 (y + z)), (some 53, .pointer (some ⟨R, 0, none⟩)), (some 54, .pointer (some ⟨R, 0, none⟩)), (some 55, .pointer (some ⟨R, 1, none⟩)), (none, undef)]) [some 45, some 46, some 47, some 48, some 49, some 50, some 51, some 52, some 53, some 54, some 55, none] rfl (fun listed hsz hr => Ord.all_listedC (rank := [0, 1, 2, 3, 4, 5, 6, 7, 8, 9, 10, 11]) (by kernel_rfl) hsz hr) (by rfl) (fun _ => rfl) (by kernel_rfl) (Rg.StM [11] (fun skk sxx w' => (skk = 0 → w' = W5.drew) ∧ (skk = 1 → w' = W5.drew.setCell ⟨R, 1, none⟩ (.int .i64 (y + z))))) (fun _ _ _ _ hL h => h.ext (n := 12) (by decide) hL) ?_ ?_ () ?_
        case refine_1 =>
          intro x Lq iq oq ac w' ho hi hcl hdep hF hW
          have f1 : ac.tmps.size = 56 := hF.1
          match iq, ho, hi, hdep with
          | 0, ho, hi, hdep =>
            cases ho
            have da0 : ac.eval (.tmp 1) = .pointer (some ⟨w.heap.size, 0, none⟩) := hF.old 1 rfl
            obtain ⟨kq, hlo, hhi, hA⟩ := hW.range 0 0 (.inl rfl) (.inr ⟨11, rfl, (Rg.no_of (fun h => hcl 11 _ rfl (h) ⟨0, .phase⟩ (by simp) rfl) hi)⟩)
            exact Ord.ex_value x rfl rfl (Rg.load da0 rfl (by rw [hA.1 (by omega)]; simp [go_sem, C0.out])) rfl (hW.keep (by decide))
          | 1, ho, hi, hdep =>
            cases ho
            have da0 : ac.eval (.tmp 45) = .pointer (some ⟨R, 0, none⟩) := hF.2.2.2 0 45 _ rfl (hdep ⟨0, .data⟩ (by simp) rfl)
            exact Ord.ex_value x rfl rfl (Rg.nilc da0 rfl) rfl (hW.keep (by decide))
          | 2, ho, hi, hdep =>
            cases ho
            have da0 : ac.eval (.tmp 46) = .pointer (some ⟨R, 0, none⟩) := hF.2.2.2 1 46 _ rfl (hdep ⟨1, .data⟩ (by simp) rfl)
            exact Ord.ex_value x rfl rfl (Rg.fa da0 rfl (by simp [go_sem])) rfl (hW.keep (by decide))
          | 3, ho, hi, hdep =>
            cases ho
            have da0 : ac.eval (.tmp 47) = .pointer (some ⟨R, 0, none⟩) := hF.2.2.2 2 47 _ rfl (hdep ⟨2, .data⟩ (by simp) rfl)
            exact Ord.ex_value x rfl rfl (Rg.fa da0 rfl (by simp [go_sem])) rfl (hW.keep (by decide))
          | 4, ho, hi, hdep =>
            cases ho
            have da0 : ac.eval (.tmp 48) = .pointer (some ⟨R, 1, none⟩) := hF.2.2.2 3 48 _ rfl (hdep ⟨3, .data⟩ (by simp) rfl)
            obtain ⟨kq, hlo, hhi, hA⟩ := hW.range 0 0 (.inl rfl) (.inr ⟨11, rfl, (Rg.no_of (fun h => hcl 11 _ rfl (h) ⟨4, .phase⟩ (by simp) rfl) hi)⟩)
            exact Ord.ex_value x rfl rfl (Rg.load da0 rfl (by rw [hA.1 (by omega)]; simp [go_sem, CY.out])) rfl (hW.keep (by decide))
          | 5, ho, hi, hdep =>
            cases ho
            have da0 : ac.eval (.tmp 3) = .pointer (some ⟨g, o, none⟩) := hF.old 3 rfl
            exact Ord.ex_value x rfl rfl (Rg.mv da0 rfl) rfl (hW.keep (by decide))
          | 6, ho, hi, hdep =>
            cases ho
            have da0 : ac.eval (.tmp 50) = .pointer (some ⟨g, o, none⟩) := hF.2.2.2 5 50 _ rfl (hdep ⟨5, .data⟩ (by simp) rfl)
            obtain ⟨kq, hlo, hhi, hA⟩ := hW.range 0 0 (.inl rfl) (.inr ⟨11, rfl, (Rg.no_of (fun h => hcl 11 _ rfl (h) ⟨6, .chain⟩ (by simp) rfl) hi)⟩)
            have hw := hA.1 (by omega)
            subst hw
            exact Rg.ex_call x rfl rfl (Rg.enter (args := #[.pointer (some ⟨g, o, none⟩)]) rfl rfl (by simp [da0]) ES.out) (Calls.mono SZ.out (by rintro e w2 ⟨rfl, rfl⟩; exact ⟨rfl, (hW.keep (by decide))⟩))
          | 7, ho, hi, hdep =>
            cases ho
            have da0 : ac.eval (.tmp 49) = .int .i64 y := hF.2.2.2 4 49 _ rfl (hdep ⟨4, .data⟩ (by simp) rfl)
            have da1 : ac.eval (.tmp 51) = .int .i64 z := hF.2.2.2 6 51 _ rfl (hdep ⟨6, .data⟩ (by simp) rfl)
            exact Ord.ex_value x rfl rfl (Rg.bin da0 da1 rfl (by simp [go_sem, HW2.out])) rfl (hW.keep (by decide))
          | 8, ho, hi, hdep =>
            cases ho
            have da0 : ac.eval (.tmp 45) = .pointer (some ⟨R, 0, none⟩) := hF.2.2.2 0 45 _ rfl (hdep ⟨0, .data⟩ (by simp) rfl)
            exact Ord.ex_value x rfl rfl (Rg.nilc da0 rfl) rfl (hW.keep (by decide))
          | 9, ho, hi, hdep =>
            cases ho
            have da0 : ac.eval (.tmp 53) = .pointer (some ⟨R, 0, none⟩) := hF.2.2.2 8 53 _ rfl (hdep ⟨8, .data⟩ (by simp) rfl)
            exact Ord.ex_value x rfl rfl (Rg.fa da0 rfl (by simp [go_sem])) rfl (hW.keep (by decide))
          | 10, ho, hi, hdep =>
            cases ho
            have da0 : ac.eval (.tmp 54) = .pointer (some ⟨R, 0, none⟩) := hF.2.2.2 9 54 _ rfl (hdep ⟨9, .data⟩ (by simp) rfl)
            exact Ord.ex_value x rfl rfl (Rg.fa da0 rfl (by simp [go_sem])) rfl (hW.keep (by decide))
          | 11, ho, hi, hdep =>
            cases ho
            have da0 : ac.eval (.tmp 55) = .pointer (some ⟨R, 1, none⟩) := hF.2.2.2 10 55 _ rfl (hdep ⟨10, .data⟩ (by simp) rfl)
            have da1 : ac.eval (.tmp 52) = .int .i64 (y + z) := hF.2.2.2 7 52 _ rfl (hdep ⟨7, .data⟩ (by simp) rfl)
            have hA := hW.at (k := 0) rfl hi (.inl rfl)
            have hw := hA.1 rfl
            subst hw
            exact Rg.ex_skip x rfl rfl (Rg.sto da0 da1 rfl HST.out) rfl (hW.next (k := 0) rfl (by decide) hi (.inl rfl) ⟨fun e => absurd e (by decide), fun _ => rfl⟩)
        case refine_3 => exact Rg.StM.first ⟨fun _ => rfl, fun e => absurd e (by decide)⟩
        case refine_2 =>
          intro v' w2 hW
          have hA := hW.last
          have hw2 := hA.2 rfl
          subst hw2
          clear hW hA
          simp only [Ord.puts, Ord.prs]
          go_simp
          have G6 : Hid (Mn w D (W5.drew.setCell ⟨R, 1, none⟩ (.int .i64 (y + z))) t f rv nx n (up (k + 1) (f4 nl gd) L) R ap tb fb nb (sI (frF nl gd) L (k + 1)) rn ak tl gd nl ∧ KeepsFrom W1.heap.size W3 (W5.drew.setCell ⟨R, 1, none⟩ (.int .i64 (y + z)))) := by
            have h3 := HF4.out
            have h4 := HFR.out
            simp only [and_self, if_true] at h3 h4
            have hs : ({ { x with st := 3 } with st := 4 } : Ch) = f4 nl gd k x := h3.symm
            have h5 : Mn w D (W5.drew.setCell ⟨R, 1, none⟩ (.int .i64 (y + z))) t f rv nx n ((up k (f4 nl gd) L).set k { { x with st := 3 } with st := 4 }) R ap tb fb nb (y + z) rn ak tl gd nl := G5.out.1.drew.rep rfl
            rw [hs, up_set HX.out] at h5
            rw [HSI.out, h4, HZ.out.2]
            exact ⟨h5, KeepsFrom.trans (KeepsFrom.trans G5.out.2 ((KeepsOthers.drew W5).from _)) ((KeepsOthers.setCell _ _ _).from _)⟩
          clear G5
          gi_wp2
          exact ⟨G6.out.2, G6.out.1⟩
    | false =>
      have HF4A : Hid (f4a nl k x = x) := HF4A0.out
      have G4 : Hid (Mn w D W3 t f rv nx n ((up k (f4 nl gd) L).set k x) R ap tb fb nb y rn ak tl gd nl ∧ KeepsFrom W1.heap.size W3 W3) := by
        rw [set_self (up_here HX.out)]; exact ⟨HI3.out, KeepsFrom.refl _ _⟩
      clear TA
      obtain ⟨P4, hN4⟩ := G4.out.1.cx.no
      have hi4 := set_at (y := x) (up_here (k := k) (f := f4 nl gd) HX.out)
      obtain ⟨v4, hcl4, _, hgl4, _⟩ := hN4.chunk HP.out hi4
      have c6 := hcl4 6 _ rfl
      simp only at c6
      have d0 := G4.out.1.b0.cell 0 rfl
      have d3 := G4.out.1.cx.rh.cell 3 rfl
      have d5 := G4.out.1.cx.rh.cell 5 rfl
      rw [HLEN2.out _] at d5
      have dt := G4.out.1.cx.fb_.cell (j := k) (by rw [HLEN2.out _]; exact HKK.out)
      have TN := hidden (turn hN4 (HLKS.out x rfl rfl) HP.out hi4 4)
      rw [set_set] at TN
      have HF4 : Hid (f4 nl gd k x = if gd k = true ∧ (f4a nl k x).st = 3 then { x with st := 4 } else f4a nl k x) := rfl
      have HFR : Hid (frF nl gd k x = if gd k = true ∧ (f4a nl k x).st = 3 then sz x else 0) := rfl
      rw [HF4A.out] at HF4 HFR
      generalize hgd : gd k = v at *
      have stay : v = false ∨ x.st ≠ 3 → Hid (Mn w D W3 t f rv nx n (up (k + 1) (f4 nl gd) L) R ap tb fb nb (sI (frF nl gd) L (k + 1)) rn ak tl gd nl ∧ KeepsFrom W1.heap.size W3 W3) := fun hc => by
        have e1 : ¬ (v = true ∧ (x).st = 3) := fun e => by
          rcases hc with h | h
          · rw [h] at e; cases e.1
          · exact h e.2
        have h3 := HF4.out
        have h4 := HFR.out
        rw [if_neg e1] at h3 h4
        have h5 := G4.out.1
        rw [← h3, up_set HX.out] at h5
        rw [HSI.out, h4, Int.add_zero]
        exact ⟨h5, G4.out.2⟩
      clear hN4 hcl4 hi4
      generalize hst : x.st = st at *
      cases v with
      | false =>
        have G := stay (.inl rfl)
        clear stay
        gi_wp2
        exact ⟨G.out.2, G.out.1⟩
      | true =>
        by_cases hs3 : st = 3
        · subst hs3
          clear stay
          gi_wp2_with fail
          refine ⟨trivial, (CallsIn.inRound l (callsIn_wide.2 TN.out)).mono ?_⟩
          rintro e W5 ⟨rfl, hP5, hm5⟩
          have G5 : Hid (Mn w D W5 t f rv nx n ((up k (f4 nl gd) L).set k { x with st := 4 }) R ap tb fb nb y rn ak tl gd nl ∧ KeepsFrom W1.heap.size W3 W5) :=
            ⟨G4.out.1.box hm5 (by rw [List.length_set, List.length_set]) hP5, KeepsFrom.trans G4.out.2 (hm5.keeps (fun k hk => by have := G4.out.1.bl k (.inl hk); have := HS1.out; omega))⟩
          obtain ⟨P5, hN5⟩ := G5.out.1.cx.no
          have SZ : Hid (Calls Try.prog 89 #[.pointer (some ⟨g, o, none⟩)] W5.drew fun e w' => e = .returned (.int .i64 z) ∧ W5.drew = w') := by
            have := size hN5.drew HP.out (set_at (y := { x with st := 4 }) (up_here (k := k) (f := f4 nl gd) HX.out))
            have hz : sz { x with st := 4 } = z := HZ.out.2
            rw [hz] at this
            exact this
          have C0 : Hid (W5.drew.cell? ⟨w.heap.size, 0, none⟩ = some (.pointer (some ⟨R, 0, none⟩))) := G5.out.1.b0.cell 0 rfl
          have CY : Hid (W5.drew.cell? ⟨R, 1, none⟩ = some (.int .i64 y)) := G5.out.1.cx.rh.cell 1 rfl
          have HST : Hid ((Instr.storeAt 3 (.pointer (some ⟨R, 1, none⟩)) (.int .i64 (y + z))).run Try.prog W5.drew = .ok () (W5.drew.setCell ⟨R, 1, none⟩ (.int .i64 (y + z)))) := st_int (w := W5.drew) (y + z) CY.out (G5.out.1.cx.rh.frozen 1)
          clear hP5 hm5 hN5 TN c6 d0 d3 d5 dt
          gi_wp2_with fail
          refine Ord.wp_region_exR (X := Unit) (by kernel_rfl) 56 (fun x => [(some 45, .pointer (some ⟨R, 0, none⟩)), (some 46, .pointer (some ⟨R, 0, none⟩)), (some 47, .pointer (some ⟨R, 0, none⟩)), (some 48, .pointer (some ⟨R, 1, none⟩)), (some 49, .int .i64 y), (some 50, .pointer (some ⟨g, o, none⟩)), (some 51, .int .i64 z), (some 52, .int .i64 (y + z)), (some 53, .pointer (some ⟨R, 0, none⟩)), (some 54, .pointer (some ⟨R, 0, none⟩)), (some 55, .pointer (some ⟨R, 1, none⟩)), (none, undef)]) [some 45, some 46, some 47, some 48, some 49, some 50, some 51, some 52, some 53, some 54, some 55, none] rfl (fun listed hsz hr => Ord.all_listedC (rank := [0, 1, 2, 3, 4, 5, 6, 7, 8, 9, 10, 11]) (by kernel_rfl) hsz hr) (by rfl) (fun _ => rfl) (by kernel_rfl) (Rg.StM [11] (fun skk sxx w' => (skk = 0 → w' = W5.drew) ∧ (skk = 1 → w' = W5.drew.setCell ⟨R, 1, none⟩ (.int .i64 (y + z))))) (fun _ _ _ _ hL h => h.ext (n := 12) (by decide) hL) ?_ ?_ () ?_
          case refine_1 =>
            intro x Lq iq oq ac w' ho hi hcl hdep hF hW
            have f1 : ac.tmps.size = 56 := hF.1
            match iq, ho, hi, hdep with
            | 0, ho, hi, hdep =>
              cases ho
              have da0 : ac.eval (.tmp 1) = .pointer (some ⟨w.heap.size, 0, none⟩) := hF.old 1 rfl
              obtain ⟨kq, hlo, hhi, hA⟩ := hW.range 0 0 (.inl rfl) (.inr ⟨11, rfl, (Rg.no_of (fun h => hcl 11 _ rfl (h) ⟨0, .phase⟩ (by simp) rfl) hi)⟩)
              exact Ord.ex_value x rfl rfl (Rg.load da0 rfl (by rw [hA.1 (by omega)]; simp [go_sem, C0.out])) rfl (hW.keep (by decide))
            | 1, ho, hi, hdep =>
              cases ho
              have da0 : ac.eval (.tmp 45) = .pointer (some ⟨R, 0, none⟩) := hF.2.2.2 0 45 _ rfl (hdep ⟨0, .data⟩ (by simp) rfl)
              exact Ord.ex_value x rfl rfl (Rg.nilc da0 rfl) rfl (hW.keep (by decide))
            | 2, ho, hi, hdep =>
              cases ho
              have da0 : ac.eval (.tmp 46) = .pointer (some ⟨R, 0, none⟩) := hF.2.2.2 1 46 _ rfl (hdep ⟨1, .data⟩ (by simp) rfl)
              exact Ord.ex_value x rfl rfl (Rg.fa da0 rfl (by simp [go_sem])) rfl (hW.keep (by decide))
            | 3, ho, hi, hdep =>
              cases ho
              have da0 : ac.eval (.tmp 47) = .pointer (some ⟨R, 0, none⟩) := hF.2.2.2 2 47 _ rfl (hdep ⟨2, .data⟩ (by simp) rfl)
              exact Ord.ex_value x rfl rfl (Rg.fa da0 rfl (by simp [go_sem])) rfl (hW.keep (by decide))
            | 4, ho, hi, hdep =>
              cases ho
              have da0 : ac.eval (.tmp 48) = .pointer (some ⟨R, 1, none⟩) := hF.2.2.2 3 48 _ rfl (hdep ⟨3, .data⟩ (by simp) rfl)
              obtain ⟨kq, hlo, hhi, hA⟩ := hW.range 0 0 (.inl rfl) (.inr ⟨11, rfl, (Rg.no_of (fun h => hcl 11 _ rfl (h) ⟨4, .phase⟩ (by simp) rfl) hi)⟩)
              exact Ord.ex_value x rfl rfl (Rg.load da0 rfl (by rw [hA.1 (by omega)]; simp [go_sem, CY.out])) rfl (hW.keep (by decide))
            | 5, ho, hi, hdep =>
              cases ho
              have da0 : ac.eval (.tmp 3) = .pointer (some ⟨g, o, none⟩) := hF.old 3 rfl
              exact Ord.ex_value x rfl rfl (Rg.mv da0 rfl) rfl (hW.keep (by decide))
            | 6, ho, hi, hdep =>
              cases ho
              have da0 : ac.eval (.tmp 50) = .pointer (some ⟨g, o, none⟩) := hF.2.2.2 5 50 _ rfl (hdep ⟨5, .data⟩ (by simp) rfl)
              obtain ⟨kq, hlo, hhi, hA⟩ := hW.range 0 0 (.inl rfl) (.inr ⟨11, rfl, (Rg.no_of (fun h => hcl 11 _ rfl (h) ⟨6, .chain⟩ (by simp) rfl) hi)⟩)
              have hw := hA.1 (by omega)
              subst hw
              exact Rg.ex_call x rfl rfl (Rg.enter (args := #[.pointer (some ⟨g, o, none⟩)]) rfl rfl (by simp [da0]) ES.out) (Calls.mono SZ.out (by rintro e w2 ⟨rfl, rfl⟩; exact ⟨rfl, (hW.keep (by decide))⟩))
            | 7, ho, hi, hdep =>
              cases ho
              have da0 : ac.eval (.tmp 49) = .int .i64 y := hF.2.2.2 4 49 _ rfl (hdep ⟨4, .data⟩ (by simp) rfl)
              have da1 : ac.eval (.tmp 51) = .int .i64 z := hF.2.2.2 6 51 _ rfl (hdep ⟨6, .data⟩ (by simp) rfl)
              exact Ord.ex_value x rfl rfl (Rg.bin da0 da1 rfl (by simp [go_sem, HW2.out])) rfl (hW.keep (by decide))
            | 8, ho, hi, hdep =>
              cases ho
              have da0 : ac.eval (.tmp 45) = .pointer (some ⟨R, 0, none⟩) := hF.2.2.2 0 45 _ rfl (hdep ⟨0, .data⟩ (by simp) rfl)
              exact Ord.ex_value x rfl rfl (Rg.nilc da0 rfl) rfl (hW.keep (by decide))
            | 9, ho, hi, hdep =>
              cases ho
              have da0 : ac.eval (.tmp 53) = .pointer (some ⟨R, 0, none⟩) := hF.2.2.2 8 53 _ rfl (hdep ⟨8, .data⟩ (by simp) rfl)
              exact Ord.ex_value x rfl rfl (Rg.fa da0 rfl (by simp [go_sem])) rfl (hW.keep (by decide))
            | 10, ho, hi, hdep =>
              cases ho
              have da0 : ac.eval (.tmp 54) = .pointer (some ⟨R, 0, none⟩) := hF.2.2.2 9 54 _ rfl (hdep ⟨9, .data⟩ (by simp) rfl)
              exact Ord.ex_value x rfl rfl (Rg.fa da0 rfl (by simp [go_sem])) rfl (hW.keep (by decide))
            | 11, ho, hi, hdep =>
              cases ho
              have da0 : ac.eval (.tmp 55) = .pointer (some ⟨R, 1, none⟩) := hF.2.2.2 10 55 _ rfl (hdep ⟨10, .data⟩ (by simp) rfl)
              have da1 : ac.eval (.tmp 52) = .int .i64 (y + z) := hF.2.2.2 7 52 _ rfl (hdep ⟨7, .data⟩ (by simp) rfl)
              have hA := hW.at (k := 0) rfl hi (.inl rfl)
              have hw := hA.1 rfl
              subst hw
              exact Rg.ex_skip x rfl rfl (Rg.sto da0 da1 rfl HST.out) rfl (hW.next (k := 0) rfl (by decide) hi (.inl rfl) ⟨fun e => absurd e (by decide), fun _ => rfl⟩)
          case refine_3 => exact Rg.StM.first ⟨fun _ => rfl, fun e => absurd e (by decide)⟩
          case refine_2 =>
            intro v' w2 hW
            have hA := hW.last
            have hw2 := hA.2 rfl
            subst hw2
            clear hW hA
            simp only [Ord.puts, Ord.prs]
            go_simp
            have G6 : Hid (Mn w D (W5.drew.setCell ⟨R, 1, none⟩ (.int .i64 (y + z))) t f rv nx n (up (k + 1) (f4 nl gd) L) R ap tb fb nb (sI (frF nl gd) L (k + 1)) rn ak tl gd nl ∧ KeepsFrom W1.heap.size W3 (W5.drew.setCell ⟨R, 1, none⟩ (.int .i64 (y + z)))) := by
              have h3 := HF4.out
              have h4 := HFR.out
              simp only [and_self, if_true] at h3 h4
              have hs : ({ x with st := 4 } : Ch) = f4 nl gd k x := h3.symm
              have h5 : Mn w D (W5.drew.setCell ⟨R, 1, none⟩ (.int .i64 (y + z))) t f rv nx n ((up k (f4 nl gd) L).set k { x with st := 4 }) R ap tb fb nb (y + z) rn ak tl gd nl := G5.out.1.drew.rep rfl
              rw [hs, up_set HX.out] at h5
              rw [HSI.out, h4, HZ.out.2]
              exact ⟨h5, KeepsFrom.trans (KeepsFrom.trans G5.out.2 ((KeepsOthers.drew W5).from _)) ((KeepsOthers.setCell _ _ _).from _)⟩
            clear G5
            gi_wp2
            exact ⟨G6.out.2, G6.out.1⟩
        · have h3b : (st == 3) = false := by simp [hs3]
          have G := stay (.inr hs3)
          clear stay
          gi_wp2
          exact ⟨G.out.2, G.out.1⟩
end
end Go.Proofs.Ytjceeckcfjjkkaa.Ob
