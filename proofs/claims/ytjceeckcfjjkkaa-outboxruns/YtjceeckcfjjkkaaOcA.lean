/-
  The law's own two chunks, of which the later one came.
  Conditions: none.
-/
import Derived.Test.YtjceeckcfjjkkaaObZ
namespace Go.Proofs.Ytjceeckcfjjkkaa.Ob
open Go.ChangeShapes Go.WideShapes Go.ChangeAt Go.RowKit Go.Shelf
open Ba (hidden Has cell_lt heap_lt)
set_option linter.unusedVariables false
def lit1 : Ch := ⟨1, 0, 1, 5, 0, false, 1, ⟨0, 0, 0, false, [97, 98], true, true⟩⟩
def lit2 : Ch := ⟨2, 0, 1, 6, 0, false, 1, ⟨0, 0, 0, false, [99], true, true⟩⟩
def litS : St := ⟨2, 0, [lit1, lit2]⟩
def litQ : Rq := ⟨3, 0, [(2, 2)], []⟩
def litC (b : Nat) : Ck := ⟨3, 0, 0, 0, 0, 0, 0, 0, 0, 0, some ⟨b, 0, none⟩, 1, 1, none, 0, 0, none, 0, 0, none, 0, 0, none, 0, 0⟩
theorem litS_good : Good 2 litS := by
  refine ⟨by decide, by decide, by decide, by decide, by decide, by decide, fun x hx => ?_, fun i x hx => ?_⟩
  · simp only [litS, List.mem_cons, List.not_mem_nil, or_false] at hx
    rcases hx with rfl | rfl <;> exact ⟨by decide, by decide, by decide, by decide, by decide, by decide, by decide, by decide, by decide, by decide, by decide, by decide, by decide⟩
  · match i, hx with
    | 0, hx => simp [litS] at hx; subst hx; rfl
    | 1, hx => simp [litS] at hx; subst hx; rfl
    | i + 2, hx => simp [litS] at hx
theorem lit_rep : repE litS litQ 9 = 0 := by decide +kernel
theorem lit_fr : frV (tlS litS litQ) (gdS litS litQ) litS.L = 0 := by decide +kernel
theorem lit_ak : (akV (tlS litS litQ) (gdS litS litQ) 9 litS.L 0).by_ = 1 ∧ (akV (tlS litS litQ) (gdS litS litQ) 9 litS.L 0).mv = false ∧ (akV (tlS litS litQ) (gdS litS litQ) 9 litS.L 0).tr = 3 ∧ (akV (tlS litS litQ) (gdS litS litQ) 9 litS.L 0).lo = 0 := by decide +kernel
theorem lit_len : (repS litS litQ).L.length = 2 := by decide +kernel
theorem lit_at0 : ∃ x, (repS litS litQ).L[0]? = some x ∧ x.mi = 1 := ⟨{ lit1 with mi := 1 }, by rfl, by rfl⟩
theorem lit_at1 : ∃ x, (repS litS litQ).L[1]? = some x ∧ x.st = 3 := ⟨{ lit2 with st := 3 }, by rfl, by rfl⟩
theorem lit_fl : fl (repS litS litQ).L 0 = 2 := by decide +kernel
theorem lit_d : ∀ x ∈ (repS litS litQ).L, 1 ≤ x.p.d.length := fun x hx => by
  have e : (repS litS litQ).L = [{ lit1 with mi := 1 }, { lit2 with st := 3 }] := by rfl
  rw [e] at hx
  simp only [List.mem_cons, List.not_mem_nil, or_false] at hx
  rcases hx with rfl | rfl <;> decide
set_option maxRecDepth 8000 in
set_option maxHeartbeats 4000000 in
theorem alive (w : World) : Calls Try.prog 11 #[] w fun e w' => e = .returned (.bool true) ∧ Below w.heap.size w w' := by
  have N := hidden (new (fun _ => True) 1 2 (by decide) (by decide) (by decide) w)
  have PA : Hid (∀ w, Calls Try.prog 18 #[.string ⟨#[97, 98]⟩] w fun e w' => ∃ b cap, e = .returned (pv 0 0 0 false true true (some ⟨b, 0, none⟩) 2 cap) ∧ w.heap.size ≤ b ∧ Row w' (some ⟨b, 0, none⟩) 2 [97, 98] ∧ Below w.heap.size w w') := fun w => part ⟨#[97, 98]⟩ (by decide) w
  have PB : Hid (∀ w, Calls Try.prog 18 #[.string ⟨#[99]⟩] w fun e w' => ∃ b cap, e = .returned (pv 0 0 0 false true true (some ⟨b, 0, none⟩) 1 cap) ∧ w.heap.size ≤ b ∧ Row w' (some ⟨b, 0, none⟩) 1 [99] ∧ Below w.heap.size w w') := fun w => part ⟨#[99]⟩ (by decide) w
  go_enter Try.func11, Try.ntmps11
  go_wp2_with fail
  refine Calls.mono N.out ?_
  rintro e w1 ⟨t, rfl, ⟨F, ⟨f, rv, P, hN, hFF⟩, hF⟩, hB1⟩
  have hF1 : ∀ k, FC t f rv k → w.heap.size ≤ k := fun k hk => hF k ((hFF k).2 hk)
  have hN1 : No (fun _ => True) w1 t f rv P 1 2 [] (fun k => fl [] k) (Ob.mk []) := hN
  have H1 := hidden (And.intro hN1 (And.intro hF1 hB1))
  clear hN hFF hF hN1 hF1 hB1 N
  go_wp2_with fail
  refine Calls.mono (PA.out w1) ?_
  rintro e w2 ⟨b, cap, rfl, hb, hr, hB2⟩
  have P1 := hidden (put_ok (H1.out.1.later hB2) ⟨by decide, fun x hx => by cases hx⟩ (by decide) (fun _ _ => trivial) 0 5 (by decide) (by decide) 0 0 0 false true true b 0 2 cap [97, 98] hr (by decide) (by decide))
  have HB2 : Hid (Below w.heap.size w w2) := H1.out.2.2.trans (hB2.mono H1.out.2.2.size)
  clear hb hr hB2 PA
  go_wp2_with fail
  refine Calls.mono P1.out ?_
  rintro e w3 ⟨rfl, rv3, P3, hN3, hm3, ho3⟩
  have H3 : Hid ((No (fun _ => True) w3 t f rv3 P3 2 2 [lit1] (fun k => fl [lit1] k) (Ob.mk [lit1])) ∧ (∀ k, FC t f rv3 k → w.heap.size ≤ k) ∧ Below w.heap.size w w3) := by
    refine ⟨hN3, fun k hk => ?_, HB2.out.trans (hm3.below HB2.out.size (fun k hk => H1.out.2.1 k hk))⟩
    rcases hk with hk | hk | hk
    · exact H1.out.2.1 k (.inl hk)
    · exact H1.out.2.1 k (.inr (.inl hk))
    · rcases ho3 k hk with h | h
      · exact H1.out.2.1 k (.inr (.inr h))
      · exact Nat.le_trans HB2.out.size h
  clear hN3 hm3 ho3 P1 HB2 H1
  go_wp2_with fail
  refine Calls.mono (PB.out w3) ?_
  rintro e w4 ⟨b, cap, rfl, hb, hr, hB4⟩
  have P2 := hidden (put_ok (H3.out.1.later hB4) ⟨by decide, fun x hx => by simp at hx; subst hx; exact ⟨by decide, by decide, by decide⟩⟩ (by decide) (fun _ _ => trivial) 0 6 (by decide) (by decide) 0 0 0 false true true b 0 1 cap [99] hr (by decide) (by decide))
  have HB4 : Hid (Below w.heap.size w w4) := H3.out.2.2.trans (hB4.mono H3.out.2.2.size)
  clear hb hr hB4 PB
  go_wp2_with fail
  refine Calls.mono P2.out ?_
  rintro e w5 ⟨rfl, rv5, P5, hN5, hm5, ho5⟩
  have H5 : Hid ((No (fun _ => True) w5 t f rv5 P5 (nextS litS) litS.n litS.L (fun k => fl litS.L k) (Ob.mk litS.L)) ∧ (∀ k, FC t f rv5 k → w.heap.size ≤ k) ∧ Below w.heap.size w w5) := by
    refine ⟨hN5, fun k hk => ?_, HB4.out.trans (hm5.below HB4.out.size (fun k hk => H3.out.2.1 k hk))⟩
    rcases hk with hk | hk | hk
    · exact H3.out.2.1 k (.inl hk)
    · exact H3.out.2.1 k (.inr (.inl hk))
    · rcases ho5 k hk with h | h
      · exact H3.out.2.1 k (.inr (.inr h))
      · exact Nat.le_trans HB4.out.size h
  clear hN5 hm5 ho5 P2 HB4 H3
  obtain ⟨W6, hW6⟩ : ∃ W6, W6 = w5.alloc (.cells #[.int .u16 2, .int .u16 2] 65) := ⟨_, rfl⟩
  have hB6 : Below w5.heap.size w5 W6 := by rw [hW6]; exact (Below.refl _ _).alloc (Nat.le_refl _) _
  have hG6 : Has W6 w5.heap.size #[.int .u16 2, .int .u16 2] 65 := by rw [hW6]; exact Has.new _ _ _
  have hRp : Rp (fun k => k = w5.heap.size) W6 (litC w5.heap.size) litQ := by
    refine ⟨rfl, rfl, by decide, by decide, ⟨_, _, rfl, by decide, fun g hg => ?_, .inr ⟨w5.heap.size, 0, rfl, rfl, fun j u hj => ?_⟩⟩, Gp.nil _ _, by decide, by decide⟩
    · simp [litQ] at hg; subst hg; decide
    · match j, hj with
      | 0, hj => simp [litQ, gcs] at hj; subst hj; exact hG6.cell 0 rfl
      | 1, hj => simp [litQ, gcs] at hj; subst hj; exact hG6.cell 1 rfl
      | j + 2, hj => simp [litQ, gcs] at hj
  have RE := hidden (report (now := 9) (H5.out.1.later hB6) litS_good hRp (fun k hk => by rw [hk]; exact hG6.lt))
  have H6 : Hid (Below w.heap.size w W6 ∧ w.heap.size ≤ W6.heap.size) := ⟨H5.out.2.2.trans (hB6.mono H5.out.2.2.size), by have := H5.out.2.2.size; have := hB6.size; omega⟩
  have HW6 := hidden hW6
  clear hB6 hG6 hRp hW6
  go_wp2_with fail
  rw [← HW6.out]
  refine Calls.mono RE.out ?_
  rintro e W7 (⟨h0, _⟩ | ⟨_, ap, rfl, hap, hA7, ⟨rv7, ⟨P7, hN7⟩, ho7⟩, hm7⟩)
  · exact absurd lit_rep h0
  · rw [lit_fr]
    have hF7 : ∀ k, FC t f rv7 k → w.heap.size ≤ k := fun k hk => H5.out.2.1 k (by
      rcases hk with h | h | h
      · exact .inl h
      · exact .inr (.inl h)
      · exact .inr (.inr (ho7 k h)))
    have HB7 : Hid (Below w.heap.size w W7) := H6.out.1.trans (hm7.below H6.out.2 (fun k hk => H5.out.2.1 k hk))
    obtain ⟨rn, hrn⟩ : ∃ rn, rn = rnV (tlS litS litQ) litS.L := ⟨_, rfl⟩
    rw [← hrn]
    obtain ⟨W8, hW8⟩ : ∃ W8, W8 = W7.alloc (.cells #[.slice (some ⟨ap, 0, none⟩) 2 2, .int .i64 0, .int .i64 rn] 34) := ⟨_, rfl⟩
    have hB8 : Below W7.heap.size W7 W8 := by rw [hW8]; exact (Below.refl _ _).alloc (Nat.le_refl _) _
    have hr8 : Has W8 W7.heap.size #[.slice (some ⟨ap, 0, none⟩) 2 2, .int .i64 0, .int .i64 rn] 34 := by rw [hW8]; exact Has.new _ _ _
    have hN8 := hN7.later hB8
    have AL := hidden (all hN8 (by rw [lit_len]; decide) lit_d)
    have H8 := hidden (And.intro hN8 (And.intro hr8 (hA7.later hB8)))
    have HB8 : Hid (Below w.heap.size w W8) := HB7.out.trans (hB8.mono HB7.out.size)
    have HW8 := hidden hW8
    clear hap hA7 hN7 ho7 hm7 hF7 hrn hW8 hB8 hr8 hN8 RE H5 H6
    go_wp2_with fail
    rw [show litS.n = 2 from rfl, ← HW8.out]
    refine Calls.mono AL.out ?_
    rintro e W9 ⟨v, rfl, ⟨ps, hrw, hmap, hmine, hown⟩, hB9⟩
    obtain ⟨h1, h2, h3⟩ := H8.out
    have hN9 := h1.later hB9
    have hr9 := h2.later hB9
    have hA9 := h3.later hB9
    have z0 := hr9.cell 0 rfl
    have z1 := hr9.cell 1 rfl
    obtain ⟨q0, q1, q2, q3⟩ := hA9.cells (j := 0) (by decide)
    have hak := lit_ak
    simp only [Int.natCast_zero, Nat.zero_mul, Nat.zero_add] at q0 q1 q2 q3
    rw [hak.1] at q0
    rw [hak.2.1] at q1
    rw [hak.2.2.1] at q2
    rw [hak.2.2.2] at q3
    have FLY := hidden (flying hN9 0)
    have hfl0 : (if (0 : Int) ≤ 0 ∧ (0 : Int) < (litS.n : Nat) then fl (repS litS litQ).L (((0 : Int).toNat : Nat) : Int) else 0) = 2 := lit_fl
    rw [hfl0] at FLY
    have hpl : ps.length = 2 := by rw [← lit_len, ← hmap, List.length_map]
    obtain ⟨g, oo, cp, hv, hgl, hcp, _⟩ := hrw.open (by rw [hpl]; decide)
    rw [hpl] at hv
    obtain ⟨x0, hx0, hm0⟩ := lit_at0
    obtain ⟨x1, hx1, hm1⟩ := lit_at1
    have key : ∀ (i : Nat) (x : Ch), (repS litS litQ).L[i]? = some x → ∃ p, ps[i]? = some p ∧ p.x = x := fun i x hx => by
      rw [← hmap, List.getElem?_map] at hx
      cases hp : ps[i]? with
      | none => rw [hp] at hx; cases hx
      | some p => rw [hp] at hx; cases hx; exact ⟨p, rfl, rfl⟩
    obtain ⟨p0, hp0, e0⟩ := key 0 x0 hx0
    obtain ⟨p1, hp1, e1⟩ := key 1 x1 hx1
    have c0 := (hrw.cell (i := 0) (g := g) (o := oo + 0 * 14) ⟨oo, _, _, hv, rfl⟩ hp0).1 4 _ rfl
    have c1 := (hrw.cell (i := 1) (g := g) (o := oo + 1 * 14) ⟨oo, _, _, hv, rfl⟩ hp1).1 6 _ rfl
    simp only [e0, hm0] at c0
    simp only [e1, hm1] at c1
    simp only [Nat.zero_mul, Nat.add_zero, Nat.one_mul] at c0 c1
    subst hv
    have HB9 : Hid (Below w.heap.size w W9) := HB8.out.trans (hB9.mono HB8.out.size)
    clear hrw hmap hmine hown hB9 h1 h2 h3 hN9 hr9 hA9 hak hx0 hx1 key hp0 hp1 e0 e1 H8 AL HB8 HB7 hpl hfl0
    go_wp2_with fail
    refine Calls.mono FLY.out ?_
    rintro e w' ⟨rfl, rfl⟩
    go_wp2
    go_ret
    exact ⟨rfl, HB9.out⟩
end Go.Proofs.Ytjceeckcfjjkkaa.Ob
