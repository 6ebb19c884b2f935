/-
  The document's writer: whether a chunk may be, how many bytes it has.
  Conditions: the numbers lie within their kinds, the cells hold them.
-/
import Derived.Test.YtifdkpifambhaaaChEd
import Derived.Test.YtifdkpifambhaaaChS
namespace Go.Proofs.Ytifdkpifambhaaa.Chu
open Go.ChangeShapes Go.WideShapes Go.ChangeAt Go.RowKit
open Par (hidden Bytes Row Prm Prms cell_lt Cap cells_new cutA thrown form_of)
set_option linter.unusedVariables false
set_option linter.unusedSimpArgs false
attribute [local go_sem ↓] execOp_ld execOp_bx execOp_st
attribute [local go_sem] run_box

theorem beat_says (c : Ck) (w : World) : Calls Try.prog 33 #[cv c] w fun e w' => e = .returned (.bool (beat c.kind)) ∧ Below w.heap.size w w' := by
  have q0 := (Bx.new w c).c0
  have HB := hidden (below_box w c)
  by_cases h4 : c.kind = 4
  · have e : beat c.kind = true := by rw [h4]; rfl
    rw [e]
    rw [h4] at q0
    go_enter Try.func33, Try.ntmps33
    go_wp2
    go_ret
    exact ⟨rfl, HB.out⟩
  · have e4 := beq_f h4
    have e : beat c.kind = (c.kind == 5) := by unfold beat; rw [e4]; rfl
    rw [e]
    go_enter Try.func33, Try.ntmps33
    go_wp2
    go_ret
    exact ⟨rfl, HB.out⟩
theorem rValue (base : Nat) (c : Ck) (w : World) (hc : Chk base w c) (hO : OwnF (val c)) (hp : pcode (c.ps.map Par.val) = 0) (hG : c.gl ≤ 4096) (hN : c.nl ≤ 4096) (hD : c.dl ≤ 4096) (hbm : c.bl ≤ 140737488351232) :
    Calls Try.prog 25 #[cv c] w fun e w' => ValR w (vby (val c)) e w' := by
  by_cases h0 : c.kind = 0
  · exact rValue0 base c w hc h0 hO hp hG hN hD hbm
  by_cases h1 : c.kind = 1
  · exact rValue1 base c w hc h1 hO hp hG hN hD hbm
  by_cases h2 : c.kind = 2
  · exact rValue2 base c w hc h2 hO hp hG hN hD hbm
  by_cases h3 : c.kind = 3
  · exact rValue3 base c w hc h3 hO hp hG hN hD hbm
  by_cases h7 : c.kind = 7
  · exact rValue7 base c w hc h7 hO hp hG hN hD hbm
  by_cases h16 : c.kind = 16
  · exact rValue16 base c w hc h16 hO hp hG hN hD hbm
  exact rValueO base c w hc h0 h1 h2 h3 h7 h16 hO hp hG hN hD hbm
/-- a value's length, in memory -/
theorem ValR.len {w w' : World} {c : Ck} {e : Ending} (hp : pcode (c.ps.map Par.val) = 0) (h : ValR w (vby (val c)) e w') : ∃ a cap, e = .returned (.slice a (vlen (val c)) cap) ∧ Below w.heap.size w w' := by
  obtain ⟨w0, v, rfl, hB, hb⟩ := h
  obtain ⟨a, cap, rfl⟩ := hB.form
  rw [vby_len _ hp]
  exact ⟨a, cap, rfl, hb.trans (hB.2.mono hb.size)⟩
/-- not -/
def notV : Value → Value
  | .bool b => .bool (!b)
  | _ => undef
section
variable {a : Act} {o : Oper} {w : World}
theorem o_not {b : Bool} (x : Operand) (h0 : a.eval x = .bool b) (ho : o.op = .unOp .not 4 x) : (execOp a.eval o).run Try.prog w = .ok (.value (.bool (!b))) w := by
  unfold execOp
  rw [ho]
  simp only [h0]
  go_simp
theorem o_bare {u0 : Value} (x : Operand) (h0 : a.eval x = u0) (ho : o.op = .call { callee := .value (.func 32), args := #[x], argTypes := #[37] }) : (execOp a.eval o).run Try.prog w = .ok (.enter 32 #[u0]) w := by
  unfold execOp
  rw [ho]
  go_simp
  exact by cases x <;> simpa [Act.eval] using h0
theorem o_same {u0 u1 : Value} (x y : Operand) (h0 : a.eval x = u0) (h1 : a.eval y = u1) (ho : o.op = .call { callee := .value (.func 18), args := #[x, y], argTypes := #[37, 37] }) : (execOp a.eval o).run Try.prog w = .ok (.enter 18 #[u0, u1]) w := by
  unfold execOp
  rw [ho]
  go_simp
  exact ⟨by cases x <;> simpa [Act.eval] using h0, by cases y <;> simpa [Act.eval] using h1⟩
end
theorem one_beat {base n : Nat} {w : World} {pa : Option Addr} {ps : List Prm} (h : Prms base w pa n ps) : OneBeat (ps.map Par.val) → n = 1 := by
  rintro ⟨b, hb⟩
  have := congrArg List.length hb
  have := h.1
  simp at *
  omega
theorem one_type {base : Nat} {w : World} {pa : Option Addr} {ps : List Prm} (h : Prms base w pa 1 ps) : ∃ b off t, pa = some ⟨b, off, none⟩ ∧ w.cell? ⟨b, off, none⟩ = some (.int .u16 t) ∧ (t = 1 ↔ OneBeat (ps.map Par.val)) := by
  obtain ⟨b, off, t, a, len, cap, zs, rfl, hpk, hc1, _, _⟩ := h.get (k := 0) (by omega)
  obtain ⟨p, rfl⟩ : ∃ p, ps = [p] := by
    match ps, h.1 with
    | [p], _ => exact ⟨p, rfl⟩
  simp only [List.getElem?_cons_zero, Option.some.injEq] at hpk
  subst hpk
  simp only [Nat.zero_mul, Nat.add_zero] at hc1
  exact ⟨b, off, t, rfl, hc1, by simp [OneBeat, Par.val]⟩
set_option maxRecDepth 20000 in
set_option maxHeartbeats 8000000 in
theorem rCheck (base : Nat) (c : Ck) (w : World) (hc : Chk base w c) (hbm : c.bl ≤ 140737488351232) : Calls Try.prog 13 #[cv c] w fun e w' => e = .returned (.int .i64 (chk (val c))) ∧ Below w.heap.size w w' := by
  have b1 := Bx.new w c
  have hb := below_box w c
  have HCK := hidden (hc.later hb)
  have HW := hidden hb
  have HX := hidden b1
  clear hc hb b1
  go_enter Try.func13, Try.ntmps13
  go_wp2_with fail
  generalize hWW : w.alloc (.cells (cc c) 37) = W at *
  clear hWW
  have HBX := hidden (show ∀ y, Below W.heap.size W y → Bx y w.heap.size c from fun y hy => HX.out.later hy)
  refine Ord.wp_region_ex (X := Value × Value) (by kernel_rfl) 69 (fun x => [(some 5, cv c), (some 6, cv c), (some 7, x.1), (some 8, x.2), (some 9, notV x.2)]) [some 5, some 6, some 7, some 8, some 9] rfl (by kernel_rfl) (by rfl) (fun _ => rfl) (by kernel_rfl) (Ord.St 2 3 (fun y => Below W.heap.size W y) (fun u y => ∃ d, u = cv d ∧ (val c = val d ↔ OwnF (val c)) ∧ (∀ base W, Lsts base W c → Lsts base W d) ∧ Below W.heap.size W y) (fun u y => ∃ t : Bool, u = .bool t ∧ (t = true ↔ OwnF (val c)) ∧ Below W.heap.size W y)) (fun _ _ _ _ hL h => h.ext (n := 5) (by decide) (by decide) hL) ?_ ?_ (undef, undef) ?_
  case refine_1 =>
    intro x L i o ac w' ho hi hcl hdep hF hW
    have hK := hW.all (fun h => h) (fun _ h => h.choose_spec.2.2.2) (fun _ h => h.choose_spec.2.2)
    have f1' : ac.tmps.size = 69 := hF.1
    match i, ho, hi, hdep with
    | 0, ho, hi, hdep =>
      cases ho
      have da0 : ac.eval (.tmp 1) = .pointer (some ⟨w.heap.size, 0, none⟩) := hF.old 1 rfl
      exact Ord.ex_value x rfl rfl (e_ldc _ da0 rfl (HBX.out _ hK)) rfl (hW.keep (by decide) (by decide))
    | 1, ho, hi, hdep =>
      cases ho
      have da0 : ac.eval (.tmp 1) = .pointer (some ⟨w.heap.size, 0, none⟩) := hF.old 1 rfl
      exact Ord.ex_value x rfl rfl (e_ldc _ da0 rfl (HBX.out _ hK)) rfl (hW.keep (by decide) (by decide))
    | 2, ho, hi, hdep =>
      cases ho
      have da0 : ac.eval (.tmp 6) = cv c := hF.2.2.2 1 6 _ rfl (hdep ⟨1, .data⟩ (by simp) rfl)
      refine Ord.ex_call x (fun v => (v, x.2)) rfl rfl (o_bare _ da0 rfl) (fun _ => rfl) (fun v j hj => match j, hj with | 0, _ => rfl | 1, _ => rfl | 2, hj => absurd hj (by rw [hi]; decide) | 3, _ => rfl | 4, _ => rfl | _ + 5, _ => rfl) (Calls.mono (rBare c w' HCK.out.1) ?_)
      rintro e w1 ⟨d, rfl, h1, h2, h3⟩
      exact ⟨_, rfl, hW.one (by decide) hi (⟨d, rfl, h1, h2, hK.trans (h3.mono hK.size)⟩)⟩
    | 3, ho, hi, hdep =>
      cases ho
      have da0 : ac.eval (.tmp 5) = cv c := hF.2.2.2 0 5 _ rfl (hdep ⟨0, .data⟩ (by simp) rfl)
      have da1 : ac.eval (.tmp 7) = x.1 := hF.2.2.2 2 7 _ rfl (hdep ⟨2, .data⟩ (by simp) rfl)
      obtain ⟨d, hv1, hiff, hls, _⟩ := hW.2.1 (hdep ⟨2, .data⟩ (by simp) rfl) hi
      refine Ord.ex_call x (fun v => (x.1, v)) rfl rfl (o_same _ _ da0 (hv1 ▸ da1) rfl) (fun _ => rfl) (fun v j hj => match j, hj with | 0, _ => rfl | 1, _ => rfl | 2, _ => rfl | 3, hj => absurd hj (by rw [hi]; decide) | 4, hj => absurd (hcl 4 _ rfl hj ⟨3, .data⟩ (by simp) rfl) (by rw [hi]; decide) | _ + 5, _ => rfl) (Calls.mono (rSame base base w' c d (HCK.out.2.later hK) (hls _ _ (HCK.out.2.later hK))) ?_)
      rintro e w1 ⟨t, rfl, h1, h3⟩
      exact ⟨_, rfl, Ord.St.two (hdep ⟨2, .data⟩ (by simp) rfl) (⟨t, rfl, h1.trans hiff, hK.trans (h3.mono hK.size)⟩)⟩
    | 4, ho, hi, hdep =>
      cases ho
      have da0 : ac.eval (.tmp 8) = x.2 := hF.2.2.2 3 8 _ rfl (hdep ⟨3, .data⟩ (by simp) rfl)
      obtain ⟨t, hv2, _⟩ := hW.2.2.1 (hdep ⟨3, .data⟩ (by simp) rfl)
      exact Ord.ex_value x rfl rfl (o_not _ (da0.trans hv2) rfl) (by rw [show ((_ : List (Option Nat × Value)).getD 4 (none, undef)).2 = notV x.2 from rfl, hv2]; rfl) (hW.keep (by decide) (by decide))
  case refine_3 => exact ⟨fun _ => Par.below_drewN (Below.refl _ _) 1, fun e => Bool.noConfusion e, fun e => Bool.noConfusion e, fun e => Bool.noConfusion e⟩
  case refine_2 =>
    intro x W1 hS
    obtain ⟨t, ht, hiff, bw1⟩ := hS.2.2.1 rfl
    clear hS
    obtain ⟨x1, x2⟩ := x
    simp only at ht
    subst ht
    simp only [Ord.puts, Ord.prs, List.filterMap_cons, List.filterMap_nil, Option.map_some, List.foldl_cons, List.foldl_nil, notV]
    go_simp
    have HIF := hidden hiff
    have HB1 := hidden bw1
    have HW1 := hidden (HW.out.trans (bw1.mono HW.out.size))
    clear hiff
    cases t with
    | false =>
      have HO := hidden (show ¬ OwnF (val c) from fun h => by have := HIF.out.2 h; cases this)
      clear bw1
      go_wp2
      go_ret
      exact fin_i (chk_63 HO.out).symm HW1.out
    | true =>
      have HO := hidden (HIF.out.1 rfl)
      have hbx := HBX.out _ bw1
      have q0 := hbx.c0
      have q13 := hbx.c13
      have q10 := hbx.c10
      have q11 := hbx.c11
      have q12 := hbx.c12
      have l0 := hbx.ld
      have HCK1 := hidden (HCK.out.later bw1)
      have hbl : (val c).bs = [] ↔ c.bl = 0 := by
        have := HCK.out.2.2.2.2.1.1
        show c.bs = [] ↔ _
        rw [← List.length_eq_zero_iff, this]
      clear bw1 hbx
      by_cases h62 : c.kind = 0 ∧ c.bl = 0
      · obtain ⟨hk0, hb0⟩ := h62
        have HF := hidden (chk_62 HO.out ⟨hk0, hbl.2 hb0⟩)
        rw [hk0] at q0
        rw [hb0] at q13
        clear hbl
        go_wp2
        go_ret
        exact fin_i HF.out.symm HW1.out
      have HN62 := hidden (show ¬ ((val c).kind = 0 ∧ (val c).bs = []) from fun h => h62 ⟨h.1, hbl.1 h.2⟩)
      clear hbl
      by_cases hk0 : c.kind = 0
      · have hbl : ¬ c.bl = 0 := fun h => h62 ⟨hk0, h⟩
        have i0 : ((c.bl : Int) == 0) = false := beq_f (by omega)
        have hbt : beat c.kind = false := by rw [hk0]; rfl
        rw [hk0] at q0
        go_wp2_with fail
        refine Calls.mono (beat_says c _) ?_
        rintro e w2 ⟨rfl, b2⟩
        have B2 := HB1.out.trans (b2.mono HB1.out.size)
        have HB2 := hidden B2
        have HW2 := hidden (HW.out.trans (B2.mono HW.out.size))
        have q14 := (HBX.out _ B2).c14
        clear b2 B2
        rw [hbt]
        have HNB := hidden (show ¬ (beat (val c).kind = true ∧ ¬ OneBeat (val c).ps) from fun h => by rw [show beat (val c).kind = false from hbt] at h; cases h.1)
        have HP := hidden (show Past (val c) from ⟨HO.out, HN62.out, HNB.out⟩)
        have q14b := (HBX.out _ HB2.out).c14
        have EN := hidden (Par.rEncode base w2 c.pa c.pl c.pc c.ps (HCK.out.later HB2.out).2.2.2.2.2.2)
        go_wp2_with fail
        refine Calls.mono EN.out ?_
        rintro e w3 ⟨pv, cd, rfl, hcd, _, _, be⟩
        have hcdv := code_val (HCK.out.later HB2.out).2.2.2.2.2.2.2.2.1 hcd
        have B3 := HB2.out.trans (be.mono HB2.out.size)
        have HB3 := hidden B3
        have HW3 := hidden (HW.out.trans (B3.mono HW.out.size))
        have hbx := HBX.out _ B3
        have r10 := hbx.c10
        have r11 := hbx.c11
        have r12 := hbx.c12
        have l3 := hbx.ld
        have HCK3 := hidden (HCK.out.later B3)
        have HGL := hidden (show (val c).gs.length = c.gl from HCK.out.2.1.1)
        have HNL := hidden (show (val c).ns.length = c.nl from HCK.out.2.2.1.1)
        have HDL := hidden (show (val c).ds.length = c.dl from HCK.out.2.2.2.1.1)
        have HCD := hidden hcdv
        have HCC := hidden hcd
        clear EN hcd hcdv be B3 hbx q14b
        by_cases hg : 4096 < c.gl
        · have HF := hidden (chk_3 HP.out (.inl (by rw [HGL.out]; exact hg)))
          have i1 : (4096 : Int) < (c.gl : Int) := by omega
          go_wp2
          go_ret
          exact fin_i HF.out.symm HW3.out
        have i1 : ¬ (4096 : Int) < (c.gl : Int) := by omega
        by_cases hn : 4096 < c.nl
        · have HF := hidden (chk_3 HP.out (.inr (.inl (by rw [HNL.out]; exact hn))))
          have i2 : (4096 : Int) < (c.nl : Int) := by omega
          go_wp2
          go_ret
          exact fin_i HF.out.symm HW3.out
        have i2 : ¬ (4096 : Int) < (c.nl : Int) := by omega
        by_cases hd : 4096 < c.dl
        · have HF := hidden (chk_3 HP.out (.inr (.inr (by rw [HDL.out]; exact hd))))
          have i3 : (4096 : Int) < (c.dl : Int) := by omega
          go_wp2
          go_ret
          exact fin_i HF.out.symm HW3.out
        have i3 : ¬ (4096 : Int) < (c.dl : Int) := by omega
        have HLE := hidden (show ¬ (4096 < (val c).gs.length ∨ 4096 < (val c).ns.length ∨ 4096 < (val c).ds.length) by rw [HGL.out, HNL.out, HDL.out]; omega)
        rcases HCC.out with ⟨_, rfl⟩ | ⟨_, _, rfl⟩ | ⟨_, _, rfl⟩
        · have HF := hidden (show chk (val c) = 3 from (chk_p HP.out HLE.out (by have := HCD.out; show pcode (c.ps.map Par.val) ≠ 0; omega)).trans HCD.out.symm)
          go_wp2
          go_ret
          exact fin_i HF.out.symm HW3.out
        · have HF := hidden (show chk (val c) = 2 from (chk_p HP.out HLE.out (by have := HCD.out; show pcode (c.ps.map Par.val) ≠ 0; omega)).trans HCD.out.symm)
          go_wp2
          go_ret
          exact fin_i HF.out.symm HW3.out
        · have VA := hidden ((rValue base c w3 HCK3.out HO.out HCD.out.symm (by omega) (by omega) (by omega) hbm).mono fun e w' h => h.len HCD.out.symm)
          go_wp2_with fail
          refine Calls.mono VA.out ?_
          rintro e w4 ⟨va, vc, rfl, b4⟩
          have HW4 := hidden (HW3.out.trans (b4.mono HW3.out.size))
          clear VA b4
          by_cases hv : 65531 < vlen (val c)
          · have HF := hidden (chk_2 HP.out HLE.out HCD.out.symm hv)
            have i4 : (65531 : Int) < (vlen (val c) : Int) := by omega
            go_wp2
            go_ret
            exact fin_i HF.out.symm HW4.out
          · have HF := hidden (chk_0 HP.out HLE.out HCD.out.symm hv)
            have i4 : ¬ (65531 : Int) < (vlen (val c) : Int) := by omega
            go_wp2
            go_ret
            exact fin_i HF.out.symm HW4.out
      · have i0 := beq_f hk0
        go_wp2_with fail
        refine Calls.mono (beat_says c _) ?_
        rintro e w2 ⟨rfl, b2⟩
        have B2 := HB1.out.trans (b2.mono HB1.out.size)
        have HB2 := hidden B2
        have HW2 := hidden (HW.out.trans (B2.mono HW.out.size))
        have q14 := (HBX.out _ B2).c14
        clear b2 B2
        cases hbt : beat c.kind with
        | false =>
          have HNB := hidden (show ¬ (beat (val c).kind = true ∧ ¬ OneBeat (val c).ps) from fun h => by rw [show beat (val c).kind = false from hbt] at h; cases h.1)
          have HP := hidden (show Past (val c) from ⟨HO.out, HN62.out, HNB.out⟩)
          have q14b := (HBX.out _ HB2.out).c14
          have EN := hidden (Par.rEncode base w2 c.pa c.pl c.pc c.ps (HCK.out.later HB2.out).2.2.2.2.2.2)
          go_wp2_with fail
          refine Calls.mono EN.out ?_
          rintro e w3 ⟨pv, cd, rfl, hcd, _, _, be⟩
          have hcdv := code_val (HCK.out.later HB2.out).2.2.2.2.2.2.2.2.1 hcd
          have B3 := HB2.out.trans (be.mono HB2.out.size)
          have HB3 := hidden B3
          have HW3 := hidden (HW.out.trans (B3.mono HW.out.size))
          have hbx := HBX.out _ B3
          have r10 := hbx.c10
          have r11 := hbx.c11
          have r12 := hbx.c12
          have l3 := hbx.ld
          have HCK3 := hidden (HCK.out.later B3)
          have HGL := hidden (show (val c).gs.length = c.gl from HCK.out.2.1.1)
          have HNL := hidden (show (val c).ns.length = c.nl from HCK.out.2.2.1.1)
          have HDL := hidden (show (val c).ds.length = c.dl from HCK.out.2.2.2.1.1)
          have HCD := hidden hcdv
          have HCC := hidden hcd
          clear EN hcd hcdv be B3 hbx q14b
          by_cases hg : 4096 < c.gl
          · have HF := hidden (chk_3 HP.out (.inl (by rw [HGL.out]; exact hg)))
            have i1 : (4096 : Int) < (c.gl : Int) := by omega
            go_wp2
            go_ret
            exact fin_i HF.out.symm HW3.out
          have i1 : ¬ (4096 : Int) < (c.gl : Int) := by omega
          by_cases hn : 4096 < c.nl
          · have HF := hidden (chk_3 HP.out (.inr (.inl (by rw [HNL.out]; exact hn))))
            have i2 : (4096 : Int) < (c.nl : Int) := by omega
            go_wp2
            go_ret
            exact fin_i HF.out.symm HW3.out
          have i2 : ¬ (4096 : Int) < (c.nl : Int) := by omega
          by_cases hd : 4096 < c.dl
          · have HF := hidden (chk_3 HP.out (.inr (.inr (by rw [HDL.out]; exact hd))))
            have i3 : (4096 : Int) < (c.dl : Int) := by omega
            go_wp2
            go_ret
            exact fin_i HF.out.symm HW3.out
          have i3 : ¬ (4096 : Int) < (c.dl : Int) := by omega
          have HLE := hidden (show ¬ (4096 < (val c).gs.length ∨ 4096 < (val c).ns.length ∨ 4096 < (val c).ds.length) by rw [HGL.out, HNL.out, HDL.out]; omega)
          rcases HCC.out with ⟨_, rfl⟩ | ⟨_, _, rfl⟩ | ⟨_, _, rfl⟩
          · have HF := hidden (show chk (val c) = 3 from (chk_p HP.out HLE.out (by have := HCD.out; show pcode (c.ps.map Par.val) ≠ 0; omega)).trans HCD.out.symm)
            go_wp2
            go_ret
            exact fin_i HF.out.symm HW3.out
          · have HF := hidden (show chk (val c) = 2 from (chk_p HP.out HLE.out (by have := HCD.out; show pcode (c.ps.map Par.val) ≠ 0; omega)).trans HCD.out.symm)
            go_wp2
            go_ret
            exact fin_i HF.out.symm HW3.out
          · have VA := hidden ((rValue base c w3 HCK3.out HO.out HCD.out.symm (by omega) (by omega) (by omega) hbm).mono fun e w' h => h.len HCD.out.symm)
            go_wp2_with fail
            refine Calls.mono VA.out ?_
            rintro e w4 ⟨va, vc, rfl, b4⟩
            have HW4 := hidden (HW3.out.trans (b4.mono HW3.out.size))
            clear VA b4
            by_cases hv : 65531 < vlen (val c)
            · have HF := hidden (chk_2 HP.out HLE.out HCD.out.symm hv)
              have i4 : (65531 : Int) < (vlen (val c) : Int) := by omega
              go_wp2
              go_ret
              exact fin_i HF.out.symm HW4.out
            · have HF := hidden (chk_0 HP.out HLE.out HCD.out.symm hv)
              have i4 : ¬ (65531 : Int) < (vlen (val c) : Int) := by omega
              go_wp2
              go_ret
              exact fin_i HF.out.symm HW4.out
        | true =>
          have HPR := hidden (HCK.out.later HB2.out).2.2.2.2.2.2
          by_cases hp1 : c.pl = 1
          · rw [hp1] at q14
            obtain ⟨b, off, ty, hpa, hcell, hty⟩ := one_type (show Prms base w2 c.pa 1 c.ps by rw [← hp1]; exact HPR.out)
            rw [hpa] at q14
            by_cases hty1 : ty = 1
            · have HNB := hidden (show ¬ (beat (val c).kind = true ∧ ¬ OneBeat (val c).ps) from fun h => h.2 (hty.1 hty1))
              rw [hty1] at hcell
              clear hty
              have HP := hidden (show Past (val c) from ⟨HO.out, HN62.out, HNB.out⟩)
              have EN := hidden (Par.rEncode base w2 (some ⟨b, off, none⟩) 1 c.pc c.ps (by rw [← hpa, ← hp1]; exact HPR.out))
              clear hpa hp1
              go_wp2_with fail
              refine Calls.mono EN.out ?_
              rintro e w3 ⟨pv, cd, rfl, hcd, _, _, be⟩
              have hcdv := code_val (HCK.out.later HB2.out).2.2.2.2.2.2.2.2.1 hcd
              have B3 := HB2.out.trans (be.mono HB2.out.size)
              have HB3 := hidden B3
              have HW3 := hidden (HW.out.trans (B3.mono HW.out.size))
              have hbx := HBX.out _ B3
              have r10 := hbx.c10
              have r11 := hbx.c11
              have r12 := hbx.c12
              have l3 := hbx.ld
              have HCK3 := hidden (HCK.out.later B3)
              have HGL := hidden (show (val c).gs.length = c.gl from HCK.out.2.1.1)
              have HNL := hidden (show (val c).ns.length = c.nl from HCK.out.2.2.1.1)
              have HDL := hidden (show (val c).ds.length = c.dl from HCK.out.2.2.2.1.1)
              have HCD := hidden hcdv
              have HCC := hidden hcd
              clear EN hcd hcdv be B3 hbx
              by_cases hg : 4096 < c.gl
              · have HF := hidden (chk_3 HP.out (.inl (by rw [HGL.out]; exact hg)))
                have i1 : (4096 : Int) < (c.gl : Int) := by omega
                go_wp2
                go_ret
                exact fin_i HF.out.symm HW3.out
              have i1 : ¬ (4096 : Int) < (c.gl : Int) := by omega
              by_cases hn : 4096 < c.nl
              · have HF := hidden (chk_3 HP.out (.inr (.inl (by rw [HNL.out]; exact hn))))
                have i2 : (4096 : Int) < (c.nl : Int) := by omega
                go_wp2
                go_ret
                exact fin_i HF.out.symm HW3.out
              have i2 : ¬ (4096 : Int) < (c.nl : Int) := by omega
              by_cases hd : 4096 < c.dl
              · have HF := hidden (chk_3 HP.out (.inr (.inr (by rw [HDL.out]; exact hd))))
                have i3 : (4096 : Int) < (c.dl : Int) := by omega
                go_wp2
                go_ret
                exact fin_i HF.out.symm HW3.out
              have i3 : ¬ (4096 : Int) < (c.dl : Int) := by omega
              have HLE := hidden (show ¬ (4096 < (val c).gs.length ∨ 4096 < (val c).ns.length ∨ 4096 < (val c).ds.length) by rw [HGL.out, HNL.out, HDL.out]; omega)
              rcases HCC.out with ⟨_, rfl⟩ | ⟨_, _, rfl⟩ | ⟨_, _, rfl⟩
              · have HF := hidden (show chk (val c) = 3 from (chk_p HP.out HLE.out (by have := HCD.out; show pcode (c.ps.map Par.val) ≠ 0; omega)).trans HCD.out.symm)
                go_wp2
                go_ret
                exact fin_i HF.out.symm HW3.out
              · have HF := hidden (show chk (val c) = 2 from (chk_p HP.out HLE.out (by have := HCD.out; show pcode (c.ps.map Par.val) ≠ 0; omega)).trans HCD.out.symm)
                go_wp2
                go_ret
                exact fin_i HF.out.symm HW3.out
              · have VA := hidden ((rValue base c w3 HCK3.out HO.out HCD.out.symm (by omega) (by omega) (by omega) hbm).mono fun e w' h => h.len HCD.out.symm)
                go_wp2_with fail
                refine Calls.mono VA.out ?_
                rintro e w4 ⟨va, vc, rfl, b4⟩
                have HW4 := hidden (HW3.out.trans (b4.mono HW3.out.size))
                clear VA b4
                by_cases hv : 65531 < vlen (val c)
                · have HF := hidden (chk_2 HP.out HLE.out HCD.out.symm hv)
                  have i4 : (65531 : Int) < (vlen (val c) : Int) := by omega
                  go_wp2
                  go_ret
                  exact fin_i HF.out.symm HW4.out
                · have HF := hidden (chk_0 HP.out HLE.out HCD.out.symm hv)
                  have i4 : ¬ (65531 : Int) < (vlen (val c) : Int) := by omega
                  go_wp2
                  go_ret
                  exact fin_i HF.out.symm HW4.out
            · have i1 := bne_t hty1
              have HF := hidden (chk_61 HO.out HN62.out ⟨hbt, fun h => hty1 (hty.2 h)⟩)
              clear hty
              go_wp2
              go_ret
              exact fin_i HF.out.symm HW2.out
          · have i1 : ((c.pl : Int) != 1) = true := bne_t (by omega)
            have HF := hidden (chk_61 HO.out HN62.out ⟨hbt, fun h => hp1 (one_beat HPR.out h)⟩)
            go_wp2
            go_ret
            exact fin_i HF.out.symm HW2.out
end Go.Proofs.Ytifdkpifambhaaa.Chu
