/-
  What is newly told of, counted by paths; round trips.
  Conditions: as at each lemma.
-/
import Derived.Test.YtjceeckcfjjkkaaObR
namespace Go.Proofs.Ytjceeckcfjjkkaa.Ob
open Go.ChangeShapes Go.WideShapes Go.ChangeAt Go.RowKit Go.Shelf
open Ba (hidden Has cell_lt heap_lt)
set_option linter.unusedVariables false
attribute [local go_sem] Oper.semAt_some
section
variable {D F : Nat → Prop} {w w' X X' : World} {t f : Nat} {rv : Value} {P : List CV} {nx : Int} {n : Nat} {L L' : List Ch} {i g o : Nat} {x y : Ch} {R ap N tb fb nb : Nat} {fr rn fr' rn' : Int} {ak ak' : Nat → Ak} {tl gd nl : Nat → Bool} {now : Int}
theorem trA_succ (nl : Nat → Bool) (now p : Int) {k : Nat} (h : L[k]? = some x) : trA nl now p L (k + 1) = (if nl k = true ∧ x.pa = p ∧ x.ti = 1 then max (now - x.se) 0 else trA nl now p L k) := by simp only [trA, h]
theorem byF_eq (nl : Nat → Bool) (p : Int) (i : Nat) (x : Ch) : byF nl p i x = if nl i = true ∧ x.pa = p then sz x else 0 := rfl
/-- while it is counted what came -/
structure Cm (w : World) (D : Nat → Prop) (X : World) (t f : Nat) (rv : Value) (nx : Int) (n : Nat) (L : List Ch) (R ap tb fb nb : Nat) (fr rn : Int) (ak : Nat → Ak) (tl gd nl : Nat → Bool) (now : Int) : Prop where
  cx : Cx D X t f rv nx n L R ap tb fb nb fr rn ak tl gd nl
  md : Mod (fun k => k = ap) w X
  al : ap < w.heap.size
  b0 : Has X w.heap.size #[.pointer (some ⟨R, 0, none⟩)] 118
  b1 : Has X (w.heap.size + 1) #[.int .i64 now] 3
theorem Cm.drew (h : Cm w D X t f rv nx n L R ap tb fb nb fr rn ak tl gd nl now) : Cm w D X.drew t f rv nx n L R ap tb fb nb fr rn ak tl gd nl now := ⟨h.cx.drew, h.md.drewr, h.al, h.b0, h.b1⟩
theorem Cm.congr (h : Cm w D X t f rv nx n L R ap tb fb nb fr rn ak tl gd nl now) (h1 : ∀ i, i < n → ak i = ak' i) : Cm w D X t f rv nx n L R ap tb fb nb fr rn ak' tl gd nl now :=
  ⟨⟨h.cx.no, h.cx.rd, h.cx.aw.congr h1, h.cx.tb_, h.cx.fb_, h.cx.nb_⟩, h.md, h.al, h.b0, h.b1⟩
theorem Cm.put (h : Cm w D X t f rv nx n L R ap tb fb nb fr rn ak tl gd nl now) {c : Nat} {u : Value} (ha : Aw (X.setCell ⟨ap, c, none⟩ u) ap n ak') : Cm w D (X.setCell ⟨ap, c, none⟩ u) t f rv nx n L R ap tb fb nb fr rn ak' tl gd nl now := by
  have hm : Mod (fun k => k = ap) X (X.setCell ⟨ap, c, none⟩ u) := Mod.setCell (F := fun k => k = ap) X (p := ⟨ap, c, none⟩) rfl _
  have hal := h.al
  exact ⟨h.cx.akT hm ha, h.md.then hm, h.al, hm.has h.b0 (fun e => by omega), hm.has h.b1 (fun e => by omega)⟩
theorem Cm.calm {B : Nat} (h : Cm w D X t f rv nx n L R ap tb fb nb fr rn ak tl gd nl now) (hc : Calm B X X') (hB : w.heap.size ≤ B) : Cm w D X' t f rv nx n L R ap tb fb nb fr rn ak tl gd nl now :=
  ⟨h.cx.calm hc, hc.mod h.md hB, h.al, hc.has h.b0, hc.has h.b1⟩
set_option maxHeartbeats 2000000 in
theorem countCame (h : Cx D w t f rv nx n L R ap tb fb nb fr rn ak tl gd nl) (hk : Lk n L) (hn : n ≤ 8) (hnow : 0 ≤ now ∧ now ≤ 1099511627776) (hse : ∀ x ∈ L, 0 ≤ x.se ∧ x.se ≤ 1099511627776) (ha : ∀ i, i < n → (ak i).by_ = 0) :
    Calls Try.prog 82 #[.pointer (some ⟨R, 0, none⟩), .int .i64 now] w fun e w' => e = .returned (.tuple #[]) ∧ Cx D w' t f rv nx n L R ap tb fb nb fr rn (fun p => { ak p with by_ := sI (byF nl p) L L.length, tr := trA nl now p L L.length }) tl gd nl ∧ Mod (fun k => k = ap) w w' := by
  refine (callsIn_wide (n := 10)).1 ?_
  have c0 := h.rh.cell 0 rfl
  have hRl := h.rh.lt
  obtain ⟨W1, hW1⟩ : ∃ W1, W1 = (w.alloc (.cells #[.pointer (some ⟨R, 0, none⟩)] 118)).alloc (.cells #[.int .i64 now] 3) := ⟨_, rfl⟩
  have hO : Ow.Own w W1 [(w.heap.size + 1, #[.int .i64 now], 3), (w.heap.size, #[.pointer (some ⟨R, 0, none⟩)], 118)] := by
    have := ((Ow.Own.refl w).alloc #[.pointer (some ⟨R, 0, none⟩)] 118).alloc #[.int .i64 now] 3
    simp only [World.size_alloc] at this
    rw [hW1]
    exact this
  have HF : Hid (Cm w D W1 t f rv nx n L R ap tb fb nb fr rn ak tl gd nl now) :=
    ⟨h.later hO.below, Mod.of_below hO.below, h.aw.lt, hO.has (List.mem_cons_of_mem _ (List.mem_cons_self ..)), hO.has (List.mem_cons_self ..)⟩
  have hs1 : w.heap.size + 2 ≤ W1.heap.size := by have := hO.lt (List.mem_cons_self ..); omega
  have HW1 := hidden hW1
  have HS1 := hidden hs1
  have HK := hidden hk
  have HA := hidden ha
  have HNOW := hidden hnow
  have HSE := hidden hse
  have HROW := hidden (row_len h.no)
  clear h hk hW1 hO hs1 ha hnow hse
  refine callsIn_of_wp_marks Try.func82 rfl trivial ?_ rfl
  simp only [Try.ntmps82, List.size_toArray, List.length_cons, List.length_nil, Nat.reduceAdd, Nat.reduceSub, Array.replicate_succ, Array.replicate_zero, List.push_toArray, List.append_toArray, List.nil_append, List.cons_append]
  gi_wp2_with fail
  rename_i K1 Q1 hK1
  rw [← HW1.out]
  refine (wpIn_wide (n := 10)).2 ?_
  go_loopw [14] (fun i W => ∃ k : Nat, i = .int .i64 (k : Int) ∧ k ≤ n ∧ Cm w D W t f rv nx n L R ap tb fb nb fr rn (fun p => if p < k then { ak p with tr := -1 } else ak p) tl gd nl now) (fun i _ => n - (intOf i).toNat)
  case atStart => exact ⟨0, rfl, Nat.zero_le _, HF.out.congr (fun i _ => by simp)⟩
  case round =>
    obtain ⟨k, rfl, hkn, hC⟩ := hrel
    by_cases hlt : k < n
    · have hlt' : (k : Int) < (n : Int) := by omega
      have d0 := hC.b0.cell 0 rfl
      have d1 := hC.cx.rh.cell 0 rfl
      obtain ⟨_, _, q2, _⟩ := hC.cx.aw.cells hlt
      have qf := hC.cx.aw.frozen (k * 4 + 2)
      have ql := hC.cx.aw.lt
      have hw3 : IntKind.i64.wrap ((k : Int) + 1) = (k : Int) + 1 := by rw [IntKind.wrap_i64]; omega
      rw [if_neg (Nat.lt_irrefl k)] at q2
      have G : Hid (Cm w D (wr.setCell ⟨ap, k * 4 + 2, none⟩ (.int .i64 (-1))) t f rv nx n L R ap tb fb nb fr rn (fun p => if p < k + 1 then { ak p with tr := -1 } else ak p) tl gd nl now) := by
        refine (hC.put (hC.cx.aw.set hlt (c := 2) (by decide) { ak k with tr := -1 } ?_ ?_ ?_ ?_)).congr (fun i _ => ?_)
        · rw [if_neg (Nat.lt_irrefl k)]; rfl
        · rw [if_neg (Nat.lt_irrefl k)]; rfl
        · rfl
        · rw [if_neg (Nat.lt_irrefl k)]; rfl
        · by_cases e : i = k
          · subst e; simp
          · by_cases e2 : i < k
            · simp only [if_neg e, if_pos e2, if_pos (show i < k + 1 by omega)]
            · simp only [if_neg e, if_neg e2, if_neg (show ¬ i < k + 1 by omega)]
      clear hC
      generalize (ak k).tr = at_ at *
      go_wp2
      go_roundw
      case rel => exact ⟨k + 1, by simp, by omega, G.out⟩
      case measure => simp only [intOf]; omega
    · obtain rfl : k = n := by omega
      have HC := hidden hC
      have d0 := hC.b0.cell 0 rfl
      have d3 := hC.cx.rh.cell 3 rfl
      clear hC
      have HWR : Hid (w.heap.size + 2 ≤ wr.heap.size) := by have := HC.out.b1.lt; show _ ≤ _; omega
      clear hRl c0 hkn
      go_wp2_with fail
      gi_wp2_with fail
      refine range_each (t := t) (rv := rv) (n := L.length) rfl HROW.out (by have := HK.out.1; omega)
        (fun q W => Cm w D W t f rv nx k L R ap tb fb nb fr rn (fun p => { ak p with by_ := sI (byF nl p) L q, tr := trA nl now p L q }) tl gd nl now)
        (fun W => False) (fun q W hI => by obtain ⟨P', hN⟩ := hI.cx.no; exact hN.q.cell 0 rfl)
        (fun q W W' hI hc => hI.calm hc (by have := HWR.out; omega))
        (fun W W' hI hc => hI.elim)
        (HC.out.congr (fun i hi => by have := HA.out i hi; rw [if_pos hi]; cases hq : ak i; rw [hq] at this; simp only at this; rw [this]; rfl))
        ?round ?done (fun D W _ hI _ => hI.elim)
      case done =>
        rintro Dd W hD hI hdef
        have G := hidden hI
        clear hI
        gi_wp2
        refine ⟨by simp, .inl ⟨_, _, rfl, run_takeDeferred hdef, ?_⟩⟩
        have hc := Calm.put (B := wr.heap.size) (.deferred none) hD hdef rfl
        have h2 := G.out.calm hc (by have := HWR.out; omega)
        exact ⟨_, results_none rfl _ _ _, rfl, h2.cx, h2.md⟩
      case round =>
        intro l q W hq hi
        clear d0 d3
        gi_wp2
        intro W3 hI3
        have HI3 := hidden hI3
        obtain ⟨P3, hN3⟩ := hI3.cx.no
        obtain ⟨x, hx⟩ : ∃ x, L[q]? = some x := ⟨_, List.getElem?_eq_getElem hq⟩
        obtain ⟨g, o, hp, he⟩ := hN3.place (k := q) hq
        rw [he]
        have HX := hidden hx
        have HP := hidden hp
        have hxx := HK.out.2 x (List.mem_of_getElem? hx)
        have hxs := HSE.out x (List.mem_of_getElem? hx)
        obtain ⟨j, hj⟩ : ∃ j : Nat, x.pa = j := ⟨x.pa.toNat, by omega⟩
        have hjn : j < k := by omega
        have HJ := hidden (And.intro hj hjn)
        have HXS := hidden hxs
        have HXX := hidden hxx
        have d0 := hI3.b0.cell 0 rfl
        have d6 := hI3.cx.rh.cell 6 rfl
        have dn := hI3.cx.nb_.cell hq
        have hq' : (q : Int) < (L.length : Int) := by omega
        have HBS := fun p : Int => sI_succ (f := byF nl p) hx
        have HTS := fun p : Int => trA_succ nl now p hx
        have HH := hidden (And.intro HBS HTS)
        have HQ := hidden hq
        generalize hu : nl q = u at dn
        generalize hN : L.length = N at *
        have HZ := hidden (And.intro hu hN)
        clear hI3 hN3 hx hp he hxx hxs hj hjn HBS HTS hq hi hu hN
        cases u with
        | false =>
          have G : Hid (Cm w D W3 t f rv nx k L R ap tb fb nb fr rn (fun p => { ak p with by_ := sI (byF nl p) L (q + 1), tr := trA nl now p L (q + 1) }) tl gd nl now) := HI3.out.congr (fun i _ => by rw [HH.out.1, HH.out.2, HZ.out.1]; unfold byF; rw [HZ.out.1]; simp)
          gi_wp2
          exact ⟨KeepsFrom.refl _ _, G.out⟩
        | true =>
          gi_wp2_with fail
          rename_i hK
          obtain ⟨P3, hN3⟩ := HI3.out.cx.no
          obtain ⟨v3, hcl3, _⟩ := hN3.chunk HP.out HX.out
          have C0 : Hid (W3.drew.cell? ⟨w.heap.size, 0, none⟩ = some (.pointer (some ⟨R, 0, none⟩))) := HI3.out.b0.cell 0 rfl
          have CA : Hid (W3.drew.cell? ⟨R, 0, none⟩ = some (.slice (some ⟨ap, 0, none⟩) k k)) := HI3.out.cx.rh.cell 0 rfl
          have CP : Hid (W3.drew.cell? ⟨g, o + 1, none⟩ = some (.int .i64 (j : Int))) := by rw [← HJ.out.1]; exact hcl3 1 _ rfl
          have HIA : Hid (∀ w', (Instr.indexAt 32 (.slice (some ⟨ap, 0, none⟩) k k) (.int .i64 (j : Int))).run Try.prog w' = .ok (.pointer (some ⟨ap, j * 4, none⟩)) w') := fun w => ix_aks HJ.out.2 w
          clear hN3 hcl3 d0 d6 dn
          refine Ord.wp_region_exR (X := Unit) (by kernel_rfl) 78 (fun x => [(some 41, .pointer (some ⟨R, 0, none⟩)), (some 42, .pointer (some ⟨R, 0, none⟩)), (some 43, .pointer (some ⟨R, 0, none⟩)), (some 44, .pointer (some ⟨R, 0, none⟩)), (some 45, .slice (some ⟨ap, 0, none⟩) k k), (some 46, .pointer (some ⟨g, o, none⟩)), (some 47, .pointer (some ⟨g, o, none⟩)), (some 48, .pointer (some ⟨g, o, none⟩)), (some 49, .pointer (some ⟨g, o + 1, none⟩)), (some 50, .int .i64 (j : Int)), (some 51, .pointer (some ⟨ap, j * 4, none⟩)), (some 7, .pointer (some ⟨ap, j * 4, none⟩))]) [some 41, some 42, some 43, some 44, some 45, some 46, some 47, some 48, some 49, some 50, some 51, some 7] rfl (fun listed hsz hr => Ord.all_listedC (rank := [0, 1, 2, 3, 4, 5, 6, 7, 8, 9, 10, 11]) (by kernel_rfl) hsz hr) (by rfl) (fun _ => rfl) (by kernel_rfl) (Rg.StM [] (fun skk sxx w' => w' = W3.drew)) (fun _ _ _ _ hL h => h.ext (n := 12) (by decide) hL) ?_ ?_ () ?_
          case refine_1 =>
            intro x Lq iq oq ac w' ho hi hcl hdep hF hW
            have f1 : ac.tmps.size = 78 := hF.1
            match iq, ho, hi, hdep with
            | 0, ho, hi, hdep =>
              cases ho
              have da0 : ac.eval (.tmp 2) = .pointer (some ⟨w.heap.size, 0, none⟩) := hF.old 2 rfl
              obtain ⟨kq, hlo, hhi, hA⟩ := hW.range 0 0 (.inl rfl) (.inl rfl)
              exact Ord.ex_value x rfl rfl (Rg.load da0 rfl (by rw [hA]; simp [go_sem, C0.out])) rfl (hW.keep (by decide))
            | 1, ho, hi, hdep =>
              cases ho
              have da0 : ac.eval (.tmp 41) = .pointer (some ⟨R, 0, none⟩) := hF.2.2.2 0 41 _ rfl (hdep ⟨0, .data⟩ (by simp) rfl)
              exact Ord.ex_value x rfl rfl (Rg.nilc da0 rfl) rfl (hW.keep (by decide))
            | 2, ho, hi, hdep =>
              cases ho
              have da0 : ac.eval (.tmp 42) = .pointer (some ⟨R, 0, none⟩) := hF.2.2.2 1 42 _ rfl (hdep ⟨1, .data⟩ (by simp) rfl)
              exact Ord.ex_value x rfl rfl (Rg.fa da0 rfl (by simp [go_sem])) rfl (hW.keep (by decide))
            | 3, ho, hi, hdep =>
              cases ho
              have da0 : ac.eval (.tmp 43) = .pointer (some ⟨R, 0, none⟩) := hF.2.2.2 2 43 _ rfl (hdep ⟨2, .data⟩ (by simp) rfl)
              exact Ord.ex_value x rfl rfl (Rg.fa da0 rfl (by simp [go_sem])) rfl (hW.keep (by decide))
            | 4, ho, hi, hdep =>
              cases ho
              have da0 : ac.eval (.tmp 44) = .pointer (some ⟨R, 0, none⟩) := hF.2.2.2 3 44 _ rfl (hdep ⟨3, .data⟩ (by simp) rfl)
              obtain ⟨kq, hlo, hhi, hA⟩ := hW.range 0 0 (.inl rfl) (.inl rfl)
              exact Ord.ex_value x rfl rfl (Rg.load da0 rfl (by rw [hA]; simp [go_sem, CA.out])) rfl (hW.keep (by decide))
            | 5, ho, hi, hdep =>
              cases ho
              have da0 : ac.eval (.tmp 6) = .pointer (some ⟨g, o, none⟩) := hF.old 6 rfl
              exact Ord.ex_value x rfl rfl (Rg.mv da0 rfl) rfl (hW.keep (by decide))
            | 6, ho, hi, hdep =>
              cases ho
              have da0 : ac.eval (.tmp 46) = .pointer (some ⟨g, o, none⟩) := hF.2.2.2 5 46 _ rfl (hdep ⟨5, .data⟩ (by simp) rfl)
              exact Ord.ex_value x rfl rfl (Rg.nilc da0 rfl) rfl (hW.keep (by decide))
            | 7, ho, hi, hdep =>
              cases ho
              have da0 : ac.eval (.tmp 47) = .pointer (some ⟨g, o, none⟩) := hF.2.2.2 6 47 _ rfl (hdep ⟨6, .data⟩ (by simp) rfl)
              exact Ord.ex_value x rfl rfl (Rg.fa da0 rfl (by simp [go_sem])) rfl (hW.keep (by decide))
            | 8, ho, hi, hdep =>
              cases ho
              have da0 : ac.eval (.tmp 48) = .pointer (some ⟨g, o, none⟩) := hF.2.2.2 7 48 _ rfl (hdep ⟨7, .data⟩ (by simp) rfl)
              exact Ord.ex_value x rfl rfl (Rg.fa da0 rfl (by simp [go_sem])) rfl (hW.keep (by decide))
            | 9, ho, hi, hdep =>
              cases ho
              have da0 : ac.eval (.tmp 49) = .pointer (some ⟨g, o + 1, none⟩) := hF.2.2.2 8 49 _ rfl (hdep ⟨8, .data⟩ (by simp) rfl)
              obtain ⟨kq, hlo, hhi, hA⟩ := hW.range 0 0 (.inl rfl) (.inl rfl)
              exact Ord.ex_value x rfl rfl (Rg.load da0 rfl (by rw [hA]; simp [go_sem, CP.out])) rfl (hW.keep (by decide))
            | 10, ho, hi, hdep =>
              cases ho
              have da0 : ac.eval (.tmp 45) = .slice (some ⟨ap, 0, none⟩) k k := hF.2.2.2 4 45 _ rfl (hdep ⟨4, .data⟩ (by simp) rfl)
              have da1 : ac.eval (.tmp 50) = .int .i64 (j : Int) := hF.2.2.2 9 50 _ rfl (hdep ⟨9, .data⟩ (by simp) rfl)
              exact Ord.ex_value x rfl rfl (Rg.ix da0 da1 rfl (HIA.out _)) rfl (hW.keep (by decide))
            | 11, ho, hi, hdep =>
              cases ho
              have da0 : ac.eval (.tmp 51) = .pointer (some ⟨ap, j * 4, none⟩) := hF.2.2.2 10 51 _ rfl (hdep ⟨10, .data⟩ (by simp) rfl)
              exact Ord.ex_value x rfl rfl (Rg.asg da0 rfl) rfl (hW.keep (by decide))
          case refine_3 => exact Rg.StM.first rfl
          case refine_2 =>
            intro v' w2 hW
            have hw2 := hW.last
            subst hw2
            clear hW
            simp only [Ord.puts, Ord.prs]
            go_simp
            refine hK _ _ ?_
            clear hK C0 CA CP
            obtain ⟨W5, hW5⟩ : ∃ W5, W5 = W3.drew := ⟨_, rfl⟩
            have G5 : Hid (Cm w D W5 t f rv nx k L R ap tb fb nb fr rn (fun p => { ak p with by_ := sI (byF nl p) L q, tr := trA nl now p L q }) tl gd nl now ∧ KeepsOthers W3 W5) := by rw [hW5]; exact ⟨HI3.out.drew, KeepsOthers.drew W3⟩
            rw [← hW5]
            clear hW5
            obtain ⟨P5, hN5⟩ := G5.out.1.cx.no
            have SZ : Hid (Calls Try.prog 89 #[.pointer (some ⟨g, o, none⟩)] W5.drew fun e w' => e = .returned (.int .i64 (sz x)) ∧ W5.drew = w') := size hN5.drew HP.out HX.out
            have ES : Hid (∀ (args : Array Value) (w : World), (callFunc 89 args).run Try.prog w = .ok (.enter 89 args) w) := enters_of Try.func89 (by kernel_rfl) rfl
            obtain ⟨q0, _, q2, _⟩ := G5.out.1.cx.aw.cells HJ.out.2
            have qf := G5.out.1.cx.aw.frozen (j * 4)
            have hsb := sI_bound (f := byF nl (j : Int)) (B := 65536) (by decide) L q (fun i y _ hy => by
              have h1 := (HK.out.2 y (List.mem_of_getElem? hy)).1
              unfold byF sz
              split <;> omega)
            have hql := HQ.out
            have hnl := HK.out.1
            have hz0 := sz_nn x
            have hz1 : sz x ≤ 65536 := by have := HXX.out.1; unfold sz; omega
            have HSZ : Hid (sz x = sz x) := rfl
            generalize hy : sI (byF nl (j : Int)) L q = y at *
            generalize hz : sz x = z at *
            have HW2 : Hid (IntKind.i64.wrap (y + z) = y + z) := by show _ = _; rw [IntKind.wrap_i64]; rw [HZ.out.2] at hnl; omega
            have CY : Hid (W5.drew.cell? ⟨ap, j * 4, none⟩ = some (.int .i64 y)) := q0
            have HST : Hid ((Instr.storeAt 3 (.pointer (some ⟨ap, j * 4, none⟩)) (.int .i64 (y + z))).run Try.prog W5.drew = .ok () (W5.drew.setCell ⟨ap, j * 4, none⟩ (.int .i64 (y + z)))) := st_int (w := W5.drew) (y + z) CY.out qf
            have G6 : Hid (Cm w D (W5.drew.setCell ⟨ap, j * 4, none⟩ (.int .i64 (y + z))) t f rv nx k L R ap tb fb nb fr rn (fun i => if i = j then { ak j with by_ := y + z, tr := trA nl now j L q } else { ak i with by_ := sI (byF nl i) L q, tr := trA nl now i L q }) tl gd nl now ∧ KeepsOthers W3 (W5.drew.setCell ⟨ap, j * 4, none⟩ (.int .i64 (y + z)))) :=
              ⟨G5.out.1.drew.put (G5.out.1.drew.cx.aw.set HJ.out.2 (c := 0) (by decide) { ak j with by_ := y + z, tr := trA nl now j L q } rfl rfl rfl rfl), (G5.out.2.trans (KeepsOthers.drew W5)).trans (KeepsOthers.setCell _ _ _)⟩
            have HYZ := hidden (And.intro hy hz)
            clear hN5 q0 q2 qf hsb hql hnl hz0 hz1 HSZ hy hz
            gi_wp2_with fail
            rename_i hK
            refine Ord.wp_region_exR (X := Unit) (by kernel_rfl) 78 (fun x => [(some 52, .pointer (some ⟨ap, j * 4, none⟩)), (some 53, .pointer (some ⟨ap, j * 4, none⟩)), (some 54, .pointer (some ⟨ap, j * 4, none⟩)), (some 55, .int .i64 y), (some 56, .pointer (some ⟨g, o, none⟩)), (some 57, .int .i64 z), (some 58, .int .i64 (y + z)), (some 59, .pointer (some ⟨ap, j * 4, none⟩)), (some 60, .pointer (some ⟨ap, j * 4, none⟩)), (none, undef)]) [some 52, some 53, some 54, some 55, some 56, some 57, some 58, some 59, some 60, none] rfl (fun listed hsz hr => Ord.all_listedC (rank := [0, 1, 2, 3, 4, 5, 6, 7, 8, 9]) (by kernel_rfl) hsz hr) (by rfl) (fun _ => rfl) (by kernel_rfl) (Rg.StM [9] (fun skk sxx w' => (skk = 0 → w' = W5.drew) ∧ (skk = 1 → w' = W5.drew.setCell ⟨ap, j * 4, none⟩ (.int .i64 (y + z))))) (fun _ _ _ _ hL h => h.ext (n := 10) (by decide) hL) ?_ ?_ () ?_
            case refine_1 =>
              intro x Lq iq oq ac w' ho hi hcl hdep hF hW
              have f1 : ac.tmps.size = 78 := hF.1
              match iq, ho, hi, hdep with
              | 0, ho, hi, hdep =>
                cases ho
                have da0 : ac.eval (.tmp 7) = .pointer (some ⟨ap, j * 4, none⟩) := hF.old 7 rfl
                exact Ord.ex_value x rfl rfl (Rg.mv da0 rfl) rfl (hW.keep (by decide))
              | 1, ho, hi, hdep =>
                cases ho
                have da0 : ac.eval (.tmp 52) = .pointer (some ⟨ap, j * 4, none⟩) := hF.2.2.2 0 52 _ rfl (hdep ⟨0, .data⟩ (by simp) rfl)
                exact Ord.ex_value x rfl rfl (Rg.nilc da0 rfl) rfl (hW.keep (by decide))
              | 2, ho, hi, hdep =>
                cases ho
                have da0 : ac.eval (.tmp 53) = .pointer (some ⟨ap, j * 4, none⟩) := hF.2.2.2 1 53 _ rfl (hdep ⟨1, .data⟩ (by simp) rfl)
                exact Ord.ex_value x rfl rfl (Rg.fa da0 rfl (by simp [go_sem])) rfl (hW.keep (by decide))
              | 3, ho, hi, hdep =>
                cases ho
                have da0 : ac.eval (.tmp 54) = .pointer (some ⟨ap, j * 4, none⟩) := hF.2.2.2 2 54 _ rfl (hdep ⟨2, .data⟩ (by simp) rfl)
                obtain ⟨kq, hlo, hhi, hA⟩ := hW.range 0 0 (.inl rfl) (.inr ⟨9, rfl, (Rg.no_of (fun h => hcl 9 _ rfl (h) ⟨3, .phase⟩ (by simp) rfl) hi)⟩)
                exact Ord.ex_value x rfl rfl (Rg.load da0 rfl (by rw [hA.1 (by omega)]; simp [go_sem, CY.out])) rfl (hW.keep (by decide))
              | 4, ho, hi, hdep =>
                cases ho
                have da0 : ac.eval (.tmp 6) = .pointer (some ⟨g, o, none⟩) := hF.old 6 rfl
                exact Ord.ex_value x rfl rfl (Rg.mv da0 rfl) rfl (hW.keep (by decide))
              | 5, ho, hi, hdep =>
                cases ho
                have da0 : ac.eval (.tmp 56) = .pointer (some ⟨g, o, none⟩) := hF.2.2.2 4 56 _ rfl (hdep ⟨4, .data⟩ (by simp) rfl)
                obtain ⟨kq, hlo, hhi, hA⟩ := hW.range 0 0 (.inl rfl) (.inr ⟨9, rfl, (Rg.no_of (fun h => hcl 9 _ rfl (h) ⟨5, .chain⟩ (by simp) rfl) hi)⟩)
                have hw := hA.1 (by omega)
                subst hw
                exact Rg.ex_call x rfl rfl (Rg.enter (args := #[.pointer (some ⟨g, o, none⟩)]) rfl rfl (by simp [da0]) ES.out) (Calls.mono SZ.out (by rintro e w2 ⟨rfl, rfl⟩; exact ⟨rfl, (hW.keep (by decide))⟩))
              | 6, ho, hi, hdep =>
                cases ho
                have da0 : ac.eval (.tmp 55) = .int .i64 y := hF.2.2.2 3 55 _ rfl (hdep ⟨3, .data⟩ (by simp) rfl)
                have da1 : ac.eval (.tmp 57) = .int .i64 z := hF.2.2.2 5 57 _ rfl (hdep ⟨5, .data⟩ (by simp) rfl)
                exact Ord.ex_value x rfl rfl (Rg.bin da0 da1 rfl (by simp [go_sem, HW2.out])) rfl (hW.keep (by decide))
              | 7, ho, hi, hdep =>
                cases ho
                have da0 : ac.eval (.tmp 52) = .pointer (some ⟨ap, j * 4, none⟩) := hF.2.2.2 0 52 _ rfl (hdep ⟨0, .data⟩ (by simp) rfl)
                exact Ord.ex_value x rfl rfl (Rg.nilc da0 rfl) rfl (hW.keep (by decide))
              | 8, ho, hi, hdep =>
                cases ho
                have da0 : ac.eval (.tmp 59) = .pointer (some ⟨ap, j * 4, none⟩) := hF.2.2.2 7 59 _ rfl (hdep ⟨7, .data⟩ (by simp) rfl)
                exact Ord.ex_value x rfl rfl (Rg.fa da0 rfl (by simp [go_sem])) rfl (hW.keep (by decide))
              | 9, ho, hi, hdep =>
                cases ho
                have da0 : ac.eval (.tmp 60) = .pointer (some ⟨ap, j * 4, none⟩) := hF.2.2.2 8 60 _ rfl (hdep ⟨8, .data⟩ (by simp) rfl)
                have da1 : ac.eval (.tmp 58) = .int .i64 (y + z) := hF.2.2.2 6 58 _ rfl (hdep ⟨6, .data⟩ (by simp) rfl)
                have hA := hW.at (k := 0) rfl hi (.inl rfl)
                have hw := hA.1 rfl
                subst hw
                exact Rg.ex_skip x rfl rfl (Rg.sto da0 da1 rfl HST.out) rfl (hW.next (k := 0) rfl (by decide) hi (.inl rfl) ⟨fun e => absurd e (by decide), fun _ => rfl⟩)
            case refine_3 => exact Rg.StM.first ⟨fun _ => rfl, fun e => absurd e (by decide)⟩
            case refine_2 =>
              intro v' w2 hW
              have hA := hW.last
              have hw2 := hA.2 rfl
              subst hw2
              clear hW hA
              simp only [Ord.puts, Ord.prs]
              go_simp
              refine hK _ _ ?_
              clear hK CY HST HW2
              obtain ⟨W6, hW6⟩ : ∃ W6, W6 = (W5.setCell ⟨ap, j * 4, none⟩ (.int .i64 (y + z))).drew := ⟨_, rfl⟩
              rw [show W5.drew.setCell ⟨ap, j * 4, none⟩ (.int .i64 (y + z)) = (W5.setCell ⟨ap, j * 4, none⟩ (.int .i64 (y + z))).drew from rfl] at G6
              rw [← hW6] at G6 ⊢
              clear hW6 G5 SZ ES
              obtain ⟨P6, hN6⟩ := G6.out.1.cx.no
              obtain ⟨v6, hcl6, _, hgl, _⟩ := hN6.chunk HP.out HX.out
              have c2 := hcl6 2 _ rfl
              simp only at c2
              have HE : Hid (x.ti = x.ti) := rfl
              generalize hti : x.ti = ti at c2
              have HTI := hidden hti
              have CN : Hid (W6.drew.cell? ⟨w.heap.size + 1, 0, none⟩ = some (.int .i64 now)) := G6.out.1.b1.cell 0 rfl
              have CS0 : W6.drew.cell? ⟨g, o + 3, none⟩ = some (.int .i64 x.se) := hcl6 3 _ rfl
              obtain ⟨_, _, q2, _⟩ := G6.out.1.cx.aw.cells HJ.out.2
              have qf := G6.out.1.cx.aw.frozen (j * 4 + 2)
              have hxs := HXS.out
              have hnw := HNOW.out
              generalize hse : x.se = se at *
              have HSE2 := hidden hse
              have CS : Hid (W6.drew.cell? ⟨g, o + 3, none⟩ = some (.int .i64 se)) := CS0
              have HW3 : Hid (IntKind.i64.wrap (now - se) = now - se) := by show _ = _; rw [IntKind.wrap_i64]; omega
              obtain ⟨mx, hmx⟩ : ∃ mx, mx = max (now - se) 0 := ⟨_, rfl⟩
              have MX : Hid (∀ (w : World) (ty : TypeId), (Builtin.max_ #[3, 3] ty #[.int .i64 (now - se), .int .i64 0]).run Try.prog w = .ok (.int .i64 mx) w) := fun w ty => by
                by_cases e : now - se < 0
                · have e1 : mx = 0 := by omega
                  have e2 : ¬ now - se > 0 := by omega
                  simp [Builtin.max_, Builtin.max2, e1, e]
                · have e1 : mx = now - se := by omega
                  simp [Builtin.max_, Builtin.max2, e1, e]
              have HST : Hid ((Instr.storeAt 3 (.pointer (some ⟨ap, j * 4 + 2, none⟩)) (.int .i64 mx)).run Try.prog W6.drew = .ok () (W6.drew.setCell ⟨ap, j * 4 + 2, none⟩ (.int .i64 mx))) := st_int (w := W6.drew) mx q2 qf
              have HMX := hidden hmx
              clear hN6 hcl6 q2 qf hxs hnw hse CS0 hmx hti HE
              by_cases h1 : ti = 1
              · subst h1
                gi_wp2_with fail
                refine Ord.wp_region_exR (X := Unit) (by kernel_rfl) 78 (fun x => [(some 67, .pointer (some ⟨ap, j * 4, none⟩)), (some 68, .int .i64 now), (some 69, .pointer (some ⟨g, o, none⟩)), (some 70, .pointer (some ⟨g, o, none⟩)), (some 71, .pointer (some ⟨g, o, none⟩)), (some 72, .pointer (some ⟨g, o + 3, none⟩)), (some 73, .int .i64 se), (some 74, .int .i64 (now - se)), (some 75, .int .i64 mx), (some 76, .pointer (some ⟨ap, j * 4, none⟩)), (some 77, .pointer (some ⟨ap, j * 4 + 2, none⟩)), (none, undef)]) [some 67, some 68, some 69, some 70, some 71, some 72, some 73, some 74, some 75, some 76, some 77, none] rfl (fun listed hsz hr => Ord.all_listedC (rank := [0, 1, 2, 3, 4, 5, 6, 7, 8, 9, 10, 11]) (by kernel_rfl) hsz hr) (by rfl) (fun _ => rfl) (by kernel_rfl) (Rg.StM [11] (fun skk sxx w' => (skk = 0 → w' = W6.drew) ∧ (skk = 1 → w' = W6.drew.setCell ⟨ap, j * 4 + 2, none⟩ (.int .i64 mx)))) (fun _ _ _ _ hL h => h.ext (n := 12) (by decide) hL) ?_ ?_ () ?_
                case refine_1 =>
                  intro x Lq iq oq ac w' ho hi hcl hdep hF hW
                  have f1 : ac.tmps.size = 78 := hF.1
                  match iq, ho, hi, hdep with
                  | 0, ho, hi, hdep =>
                    cases ho
                    have da0 : ac.eval (.tmp 7) = .pointer (some ⟨ap, j * 4, none⟩) := hF.old 7 rfl
                    exact Ord.ex_value x rfl rfl (Rg.mv da0 rfl) rfl (hW.keep (by decide))
                  | 1, ho, hi, hdep =>
                    cases ho
                    have da0 : ac.eval (.tmp 3) = .pointer (some ⟨w.heap.size + 1, 0, none⟩) := hF.old 3 rfl
                    obtain ⟨kq, hlo, hhi, hA⟩ := hW.range 0 0 (.inl rfl) (.inr ⟨11, rfl, (Rg.no_of (fun h => hcl 11 _ rfl (h) ⟨1, .phase⟩ (by simp) rfl) hi)⟩)
                    exact Ord.ex_value x rfl rfl (Rg.load da0 rfl (by rw [hA.1 (by omega)]; simp [go_sem, CN.out])) rfl (hW.keep (by decide))
                  | 2, ho, hi, hdep =>
                    cases ho
                    have da0 : ac.eval (.tmp 6) = .pointer (some ⟨g, o, none⟩) := hF.old 6 rfl
                    exact Ord.ex_value x rfl rfl (Rg.mv da0 rfl) rfl (hW.keep (by decide))
                  | 3, ho, hi, hdep =>
                    cases ho
                    have da0 : ac.eval (.tmp 69) = .pointer (some ⟨g, o, none⟩) := hF.2.2.2 2 69 _ rfl (hdep ⟨2, .data⟩ (by simp) rfl)
                    exact Ord.ex_value x rfl rfl (Rg.nilc da0 rfl) rfl (hW.keep (by decide))
                  | 4, ho, hi, hdep =>
                    cases ho
                    have da0 : ac.eval (.tmp 70) = .pointer (some ⟨g, o, none⟩) := hF.2.2.2 3 70 _ rfl (hdep ⟨3, .data⟩ (by simp) rfl)
                    exact Ord.ex_value x rfl rfl (Rg.fa da0 rfl (by simp [go_sem])) rfl (hW.keep (by decide))
                  | 5, ho, hi, hdep =>
                    cases ho
                    have da0 : ac.eval (.tmp 71) = .pointer (some ⟨g, o, none⟩) := hF.2.2.2 4 71 _ rfl (hdep ⟨4, .data⟩ (by simp) rfl)
                    exact Ord.ex_value x rfl rfl (Rg.fa da0 rfl (by simp [go_sem])) rfl (hW.keep (by decide))
                  | 6, ho, hi, hdep =>
                    cases ho
                    have da0 : ac.eval (.tmp 72) = .pointer (some ⟨g, o + 3, none⟩) := hF.2.2.2 5 72 _ rfl (hdep ⟨5, .data⟩ (by simp) rfl)
                    obtain ⟨kq, hlo, hhi, hA⟩ := hW.range 0 0 (.inl rfl) (.inr ⟨11, rfl, (Rg.no_of (fun h => hcl 11 _ rfl (h) ⟨6, .phase⟩ (by simp) rfl) hi)⟩)
                    exact Ord.ex_value x rfl rfl (Rg.load da0 rfl (by rw [hA.1 (by omega)]; simp [go_sem, CS.out])) rfl (hW.keep (by decide))
                  | 7, ho, hi, hdep =>
                    cases ho
                    have da0 : ac.eval (.tmp 68) = .int .i64 now := hF.2.2.2 1 68 _ rfl (hdep ⟨1, .data⟩ (by simp) rfl)
                    have da1 : ac.eval (.tmp 73) = .int .i64 se := hF.2.2.2 6 73 _ rfl (hdep ⟨6, .data⟩ (by simp) rfl)
                    exact Ord.ex_value x rfl rfl (Rg.bin da0 da1 rfl (by simp [go_sem, HW3.out])) rfl (hW.keep (by decide))
                  | 8, ho, hi, hdep =>
                    cases ho
                    have da0 : ac.eval (.tmp 74) = .int .i64 (now - se) := hF.2.2.2 7 74 _ rfl (hdep ⟨7, .data⟩ (by simp) rfl)
                    exact Ord.ex_value x rfl rfl (Ob.max_ da0 rfl rfl (MX.out _ _)) rfl (hW.keep (by decide))
                  | 9, ho, hi, hdep =>
                    cases ho
                    have da0 : ac.eval (.tmp 67) = .pointer (some ⟨ap, j * 4, none⟩) := hF.2.2.2 0 67 _ rfl (hdep ⟨0, .data⟩ (by simp) rfl)
                    exact Ord.ex_value x rfl rfl (Rg.nilc da0 rfl) rfl (hW.keep (by decide))
                  | 10, ho, hi, hdep =>
                    cases ho
                    have da0 : ac.eval (.tmp 76) = .pointer (some ⟨ap, j * 4, none⟩) := hF.2.2.2 9 76 _ rfl (hdep ⟨9, .data⟩ (by simp) rfl)
                    exact Ord.ex_value x rfl rfl (Rg.fa da0 rfl (by simp [go_sem])) rfl (hW.keep (by decide))
                  | 11, ho, hi, hdep =>
                    cases ho
                    have da0 : ac.eval (.tmp 77) = .pointer (some ⟨ap, j * 4 + 2, none⟩) := hF.2.2.2 10 77 _ rfl (hdep ⟨10, .data⟩ (by simp) rfl)
                    have da1 : ac.eval (.tmp 75) = .int .i64 mx := hF.2.2.2 8 75 _ rfl (hdep ⟨8, .data⟩ (by simp) rfl)
                    have hA := hW.at (k := 0) rfl hi (.inl rfl)
                    have hw := hA.1 rfl
                    subst hw
                    exact Rg.ex_skip x rfl rfl (Rg.sto da0 da1 rfl HST.out) rfl (hW.next (k := 0) rfl (by decide) hi (.inl rfl) ⟨fun e => absurd e (by decide), fun _ => rfl⟩)
                case refine_3 => exact Rg.StM.first ⟨fun _ => rfl, fun e => absurd e (by decide)⟩
                case refine_2 =>
                  intro v' w2 hW
                  have hA := hW.last
                  have hw2 := hA.2 rfl
                  subst hw2
                  clear hW hA
                  simp only [Ord.puts, Ord.prs]
                  go_simp
                  have G7 : Hid (Cm w D (W6.drew.setCell ⟨ap, j * 4 + 2, none⟩ (.int .i64 mx)) t f rv nx k L R ap tb fb nb fr rn (fun p => { ak p with by_ := sI (byF nl p) L (q + 1), tr := trA nl now p L (q + 1) }) tl gd nl now ∧ KeepsOthers W3 (W6.drew.setCell ⟨ap, j * 4 + 2, none⟩ (.int .i64 mx))) := by
                    refine ⟨(G6.out.1.drew.put (G6.out.1.drew.cx.aw.set HJ.out.2 (c := 2) (by decide) { ak j with by_ := y + z, tr := mx } (by rw [if_pos rfl]; rfl) (by rw [if_pos rfl]; rfl) rfl (by rw [if_pos rfl]; rfl))).congr (fun i _ => ?_), (G6.out.2.trans (KeepsOthers.drew W6)).trans (KeepsOthers.setCell _ _ _)⟩
                    rw [HH.out.1, HH.out.2, byF_eq]
                    rw [HJ.out.1, HTI.out, HZ.out.1]
                    by_cases e : i = j
                    · subst e
                      rw [if_pos rfl, HYZ.out.1, HYZ.out.2]
                      simp [HMX.out]
                    · have e' : ¬ (j : Int) = (i : Int) := by omega
                      rw [if_neg e, if_neg e]; simp [e']
                  clear G6
                  gi_wp2
                  exact ⟨G7.out.2.from _, G7.out.1⟩
              · have h1b : (ti == 1) = false := by simp [h1]
                have G7 : Hid (Cm w D W6 t f rv nx k L R ap tb fb nb fr rn (fun p => { ak p with by_ := sI (byF nl p) L (q + 1), tr := trA nl now p L (q + 1) }) tl gd nl now ∧ KeepsOthers W3 W6) := by
                  refine ⟨G6.out.1.congr (fun i _ => ?_), G6.out.2⟩
                  rw [HH.out.1, HH.out.2, byF_eq]
                  rw [HJ.out.1, HTI.out, HZ.out.1]
                  by_cases e : i = j
                  · subst e
                    rw [if_pos rfl, HYZ.out.1, HYZ.out.2]
                    simp [h1]
                  · have e' : ¬ (j : Int) = (i : Int) := by omega
                    rw [if_neg e]; simp [e']
                clear G6
                gi_wp2
                exact ⟨G7.out.2.from _, G7.out.1⟩
end
end Go.Proofs.Ytjceeckcfjjkkaa.Ob
