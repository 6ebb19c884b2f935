/-
  The document's network is made.
  Conditions: none.
-/
import Derived.Test.YtmogacccffkkbaaNtV
namespace Go.Proofs.Ytmogacccffkkbaa.Nt
open Go.ChangeShapes Go.WideShapes Go.ChangeAt Go.RowKit
open Ba (hidden Only In Has own_ne own_stay own_len own_some own_mono cell_lt heap_lt)
set_option linter.unusedVariables false
theorem mks {P : Program} {a : Act} {o : Oper} {w w' : World} {t : TypeId} {x y : Operand} {u v r : Value} (hx : a.eval x = u) (hy : a.eval y = v) (ho : o.op = .makeSlice t x y) (hr : (Instr.makeSlice t u v).run P w = .ok r w') : (execOp a.eval o).run P w = .ok (.value r) w' := by
  unfold execOp; rw [ho]; simp only [hx, hy]; exact Ord.run_v hr
def zr10 : Array Value := #[.slice none 0 0, .int .i64 0, .int .i64 0, .int .i64 0, .int .i64 0, .slice none 0 0, .int .i64 0, .int .i64 0, .int .i64 0, .int .i64 0]
theorem run_mk2 (w : World) : (Instr.makeSlice 66 (.int .i64 2) (.int .i64 2)).run Try.prog w = .ok (.slice (some ⟨w.heap.size, 0, none⟩) 2 2) (w.alloc (.cells zr10 105)) := by kernel_rfl
theorem run_bsR (g : Nat) (w : World) : (Instr.buildSlice 37 1 #[(0, .slice (some ⟨g, 0, none⟩) 2 2)]).run Try.prog w = .ok (.slice (some ⟨w.heap.size, 0, none⟩) 1 1) (w.alloc (.cells #[.slice (some ⟨g, 0, none⟩) 2 2] 66)) := by kernel_rfl
theorem info_rrs : (Try.prog.info? 66).map (fun i => (i.zero, i.size, i.bytes)) = some (some (.slice none 0 0), 1, 24) := by kernel_rfl
theorem info_bool : (Try.prog.info? 4).map (fun i => (i.zero, i.size, i.bytes)) = some (some (.bool false), 1, 1) := by kernel_rfl
theorem zr10_rb {w : World} {g : Nat} (h : Has w g zr10 105) : Rb w g (fun _ => ⟨0, 0, 0, 0⟩) (fun _ => .slice none 0 0) := by
  refine ⟨_, h, fun e k he hk => ?_⟩
  rcases (show e = 0 ∨ e = 1 by omega) with rfl | rfl
  · rcases (show k = 0 ∨ k = 1 ∨ k = 2 ∨ k = 3 ∨ k = 4 by omega) with rfl | rfl | rfl | rfl | rfl <;> rfl
  · rcases (show k = 0 ∨ k = 1 ∨ k = 2 ∨ k = 3 ∨ k = 4 by omega) with rfl | rfl | rfl | rfl | rfl <;> rfl
def rsl (rb : Nat → Nat) (p : Nat) : List Value := (List.range p).map (fun i => .slice (some ⟨rb i, 0, none⟩) 2 2)
def ofl (p : Nat) : List Value := (List.range p).map (fun _ => .bool false)
/-- while paths are laid -/
structure Nw (w0 w : World) (r : Nat) (rv ov : Value) (rb : Nat → Nat) (p p' : Nat) : Prop where
  br : w0.heap.size ≤ r
  net : Has w r #[rv, ov, .int .i64 0] 40
  rows : w.ownsRow w0.heap.size 66 1 rv p (rsl rb p)
  offs : w.ownsRow w0.heap.size 4 1 ov p' (ofl p')
  row : ∀ i, i < p → Rb w (rb i) (fun _ => ⟨0, 0, 0, 0⟩) (fun _ => .slice none 0 0)
  rbb : ∀ i, i < p → w0.heap.size ≤ rb i
  rinj : ∀ i j, i < p → j < p → rb i = rb j → i = j
  bel : Below w0.heap.size w0 w
section
variable {w0 w w' wr : World} {r : Nat} {rv ov x : Value} {rb : Nat → Nat} {p p' : Nat}
theorem Nw.later (h : Nw w0 w r rv ov rb p p') (hB : Below w.heap.size w w') : Nw w0 w' r rv ov rb p p' := by
  have hk : Kept (fun _ => false) w0.heap.size w w' := Kept.of_below hB
  exact ⟨h.br, h.net.later hB, hk.own h.rows rfl, hk.own h.offs rfl, fun i hi => (h.row i hi).move (fun cs hc => hc.later hB), h.rbb, h.rinj, h.bel.trans (hB.mono h.bel.size)⟩
theorem Nw.ro (h : Nw w0 w r rv ov rb p p) : Ro w0.heap.size w r rv ov rb (fun _ _ => .slice none 0 0) (fun _ _ => []) (fresh p) :=
  ⟨h.br, h.net, h.rows, h.offs, h.row, h.rbb, h.rinj, fun i e => rfl, fun i e => World.ownsRow_nil _ _ _ _, fun i e i' e' k hk => (by cases hk), fun i e x hx => (by cases hx), fun i e => List.nodup_nil, fun i e i' e' x y hx => (by cases hx)⟩
/-- worlds while a path's rows are laid -/
structure NeA (w0 wr : World) (r : Nat) (rv ov : Value) (rb : Nat → Nat) (p k : Nat) (x : Value) (w' : World) : Prop where
  h0 : k = 0 → w' = wr.drew
  h1 : k = 1 → w' = wr.drew.alloc (.cells zr10 105)
  h2 : k = 2 → w' = (wr.drew.alloc (.cells zr10 105)).alloc (.cells #[.slice (some ⟨wr.heap.size, 0, none⟩) 2 2] 66)
  h3 : k = 3 → w'.ownsRow w0.heap.size 66 1 x (p + 1) (rsl (up1 rb p wr.heap.size) (p + 1)) ∧ ((wr.drew.alloc (.cells zr10 105)).alloc (.cells #[.slice (some ⟨wr.heap.size, 0, none⟩) 2 2] 66)).grownBy w' rv.ownBlock
  h4 : k = 4 → Nw w0 w' r x ov (up1 rb p wr.heap.size) (p + 1) p
theorem NeA.below : Below wr.heap.size wr ((wr.drew.alloc (.cells zr10 105)).alloc (.cells #[.slice (some ⟨wr.heap.size, 0, none⟩) 2 2] 66)) := (((Below.refl _ wr).drew).alloc (Nat.le_refl _) _).alloc (by simp) _
theorem NeA.cell {k : Nat} (h : NeA w0 wr r rv ov rb p k x w') (hW : Nw w0 wr r rv ov rb p p) (hk : k ≤ 2) : w'.cell? ⟨r, 0, none⟩ = some rv := by
  have hc := hW.net.cell 0 rfl
  rcases (show k = 0 ∨ k = 1 ∨ k = 2 by omega) with e | e | e
  · rw [h.h0 e]; exact hc
  · rw [h.h1 e]; exact ((((Below.refl _ wr).drew).alloc (Nat.le_refl _) _).cell (p := ⟨r, 0, none⟩) hW.net.lt).trans hc
  · rw [h.h2 e]; exact (NeA.below.cell (p := ⟨r, 0, none⟩) hW.net.lt).trans hc
theorem NeA.three (h : NeA w0 wr r rv ov rb p 2 x w') (hW : Nw w0 wr r rv ov rb p p) (hp : p ≤ 8) (ty : TypeId) :
    ∃ v' w2, (Builtin.append_ #[37, 37] ty #[rv, .slice (some ⟨wr.heap.size + 1, 0, none⟩) 1 1]).run Try.prog w' = .ok v' w2 ∧ NeA w0 wr r rv ov rb p (2 + 1) v' w2 := by
  have hw := h.h2 rfl
  subst hw
  have hN : Has ((wr.drew.alloc (.cells zr10 105)).alloc (.cells #[.slice (some ⟨wr.heap.size, 0, none⟩) 2 2] 66)) (wr.heap.size + 1) #[.slice (some ⟨wr.heap.size, 0, none⟩) 2 2] 66 := by
    have := Has.new (wr.drew.alloc (.cells zr10 105)) #[.slice (some ⟨wr.heap.size, 0, none⟩) 2 2] 66
    simpa using this
  have h2 := hW.later NeA.below
  obtain ⟨v', w2, hr, g1, g2, g3⟩ := Ba.append_at (P := Try.prog) (ty := ty) (m := 1) (c := 1) (ad := ⟨wr.heap.size + 1, 0, none⟩) (news := [.slice (some ⟨wr.heap.size, 0, none⟩) 2 2]) Try.underlying37 info_rrs rfl (by decide) h2.rows rfl
    (fun j u hj => by rw [addr_add]; exact hN.cell j (by rw [← hj]; exact (List.getElem?_toArray (xs := [Value.slice (some ⟨wr.heap.size, 0, none⟩) 2 2]) (i := j)))) (by intro u hu; simp only [List.mem_cons, List.not_mem_nil, or_false] at hu; rw [hu]; rfl) (.inl (by decide)) (by unfold maxLen; omega) (by omega) (Nat.le_trans hW.bel.size NeA.below.size)
  refine ⟨v', w2, hr, fun e => absurd e (by decide), fun e => absurd e (by decide), fun e => absurd e (by decide), fun _ => ⟨?_, g2⟩, fun e => absurd e (by decide)⟩
  have e1 : rsl (up1 rb p wr.heap.size) (p + 1) = rsl rb p ++ [.slice (some ⟨wr.heap.size, 0, none⟩) 2 2] := by
    unfold rsl
    rw [List.range_succ, List.map_append]
    have e2 : (List.range p).map (fun i => Value.slice (some ⟨up1 rb p wr.heap.size i, 0, none⟩) 2 2) = (List.range p).map (fun i => Value.slice (some ⟨rb i, 0, none⟩) 2 2) := List.map_congr_left fun j hj => by rw [up1_ne _ _ (by have := List.mem_range.1 hj; omega)]
    rw [e2]
    simp [up1_same]
  rw [e1]
  exact g1
theorem NeA.four (h : NeA w0 wr r rv ov rb p 3 x w') (hW : Nw w0 wr r rv ov rb p p) :
    (Instr.storeAt 37 (.pointer (some ⟨r, 0, none⟩)) x).run Try.prog w' = .ok () (w'.setCell ⟨r, 0, none⟩ x) ∧ NeA w0 wr r rv ov rb p (3 + 1) x (w'.setCell ⟨r, 0, none⟩ x) := by
  obtain ⟨g1, g2⟩ := h.h3 rfl
  have h2 := hW.later NeA.below
  obtain ⟨W2, hW2⟩ : ∃ W2, W2 = (wr.drew.alloc (.cells zr10 105)).alloc (.cells #[.slice (some ⟨wr.heap.size, 0, none⟩) 2 2] 66) := ⟨_, rfl⟩
  have hm : Has W2 wr.heap.size zr10 105 := by rw [hW2]; exact (Has.new wr.drew _ _).later ((Below.refl _ _).alloc (Nat.le_refl _) _)
  rw [← hW2] at g2 h2
  have hk : Kept (fun t => t == 66) w0.heap.size W2 w' := Kept.grown h2.rows rfl g2
  have hnet := hk.has h2.net rfl
  have hB0 := NeA.below (wr := wr)
  rw [← hW2] at hB0
  obtain ⟨a, cap, hx⟩ := own_len g1
  refine ⟨by have c0 := hnet.cell 0 rfl; have f0 := hnet.frozen 0; rw [hx]; simp [go_sem, c0, f0], fun e => absurd e (by decide), fun e => absurd e (by decide), fun e => absurd e (by decide), fun e => absurd e (by decide), fun _ => ?_⟩
  refine ⟨hW.br, hnet.set 0 _, own_set_type g1 (p := ⟨r, 0, none⟩) hnet (by decide) _, own_set_type (hk.own h2.offs rfl) (p := ⟨r, 0, none⟩) hnet (by decide) _, fun i hi => ?_, fun i hi => ?_, fun i j hi hj hij => ?_, (h2.bel.trans (hk.below (Nat.le_trans hW.bel.size hB0.size))).setCell (p := ⟨r, 0, none⟩) hW.br _⟩
  · have key : ∀ {g : Nat}, Rb W2 g (fun _ => ⟨0, 0, 0, 0⟩) (fun _ => .slice none 0 0) → Rb (w'.setCell ⟨r, 0, none⟩ x) g (fun _ => ⟨0, 0, 0, 0⟩) (fun _ => .slice none 0 0) := fun hR => hR.move (fun cs hc => (hk.has hc rfl).set_other (p := ⟨r, 0, none⟩) ((hk.has hc rfl).ne hnet (by decide)) _)
    by_cases hip : i = p
    · subst hip
      rw [up1_same]
      exact key (zr10_rb hm)
    · rw [up1_ne _ _ hip]
      exact key (h2.row i (by omega))
  · by_cases hip : i = p
    · subst hip; rw [up1_same]; exact hW.bel.size
    · rw [up1_ne _ _ hip]; exact hW.rbb i (by omega)
  · have hlt : ∀ i, i < p → rb i < wr.heap.size := fun i hi => by obtain ⟨cs, hc⟩ := (hW.row i hi).has; exact hc.lt
    by_cases hip : i = p
    · by_cases hjp : j = p
      · rw [hip, hjp]
      · subst hip; rw [up1_same, up1_ne _ _ hjp] at hij; have := hlt j (by omega); omega
    · by_cases hjp : j = p
      · subst hjp; rw [up1_same, up1_ne _ _ hip] at hij; have := hlt i (by omega); omega
      · rw [up1_ne _ _ hip, up1_ne _ _ hjp] at hij; exact hW.rinj i j (by omega) (by omega) hij
/-- one more mark -/
theorem Nw.mark (h : Nw w0 w r rv ov rb (p + 1) p) (hp : p ≤ 8) : ∃ v' w2, (Builtin.append_ #[38, 38] 38 #[ov, .slice (some ⟨w.heap.size, 0, none⟩) 1 1]).run Try.prog (w.alloc (.cells #[.bool false] 4)) = .ok v' w2 ∧ (∃ u, w2.cell? ⟨r, 1, none⟩ = some u) ∧ w2.frozen? ⟨r, 1, none⟩ = false ∧ Nw w0 (w2.setCell ⟨r, 1, none⟩ v') r rv v' rb (p + 1) (p + 1) ∧ ∃ a c, v' = .slice a (p + 1) c := by
  have hB : Below w.heap.size w (w.alloc (.cells #[.bool false] 4)) := (Below.refl _ w).alloc (Nat.le_refl _) _
  have hN := Has.new w #[.bool false] 4
  have h2 := h.later hB
  obtain ⟨v', w2, hr, g1, g2, g3⟩ := Ba.append_at (P := Try.prog) (ty := 38) (m := 1) (c := 1) (ad := ⟨w.heap.size, 0, none⟩) (news := [.bool false]) Try.underlying38 info_bool rfl (by decide) h2.offs rfl
    (fun j u hj => by rw [addr_add]; exact hN.cell j (by rw [← hj]; exact (List.getElem?_toArray (xs := [Value.bool false]) (i := j)))) (by intro u hu; simp only [List.mem_cons, List.not_mem_nil, or_false] at hu; rw [hu]; rfl) (.inl (by decide)) (by unfold maxLen; omega) (by omega) (Nat.le_trans h.bel.size hB.size)
  have hk : Kept (fun t => t == 4) w0.heap.size (w.alloc (.cells #[.bool false] 4)) w2 := Kept.grown h2.offs rfl g2
  have hnet := hk.has h2.net rfl
  obtain ⟨a, cap, hx⟩ := own_len g1
  have ho : w2.ownsRow w0.heap.size 4 1 v' (p + 1) (ofl (p + 1)) := by
    have e1 : ofl (p + 1) = ofl p ++ [.bool false] := by
      unfold ofl
      rw [List.range_succ, List.map_append]
      rfl
    rw [e1]
    exact g1
  refine ⟨v', w2, hr, ⟨_, hnet.cell 1 rfl⟩, hnet.frozen 1, ⟨h.br, hnet.set 1 _, own_set_type (hk.own h2.rows rfl) (p := ⟨r, 1, none⟩) hnet (by decide) _, own_set_type ho (p := ⟨r, 1, none⟩) hnet (by decide) _, fun i hi => (h2.row i hi).move (fun cs hc => (hk.has hc rfl).set_other (p := ⟨r, 1, none⟩) ((hk.has hc rfl).ne hnet (by decide)) _), h.rbb, h.rinj, (h2.bel.trans (hk.below (Nat.le_trans h.bel.size hB.size))).setCell (p := ⟨r, 1, none⟩) h.br _⟩, a, cap, hx⟩
end
theorem rNew_no (p : Int) (hp : ¬ (1 ≤ p ∧ p ≤ 8)) (w : World) : Calls Try.prog 8 #[.int .i64 p] w fun e w' => e = .returned (.tuple #[.pointer none, .int .i64 1]) ∧ w = w' := by
  by_cases h : p < 1
  · go_enter Try.func8, Try.ntmps8
    go_wp2
    go_ret2
    exact ⟨rfl, rfl⟩
  · have h2 : 8 < p := by omega
    go_enter Try.func8, Try.ntmps8
    go_wp2
    go_ret2
    exact ⟨rfl, rfl⟩
set_option maxHeartbeats 4000000 in
theorem rNew (p : Nat) (hp : 1 ≤ p ∧ p ≤ 8) (w : World) : Calls Try.prog 8 #[.int .i64 p] w fun e w' => ∃ r, e = .returned (.tuple #[.pointer (some ⟨r, 0, none⟩), .int .i64 0]) ∧ (∃ rv ov rb, Ro w.heap.size w' r rv ov rb (fun _ _ => .slice none 0 0) (fun _ _ => []) (fresh p)) ∧ Below w.heap.size w w' := by
  obtain ⟨W1, hW1⟩ : ∃ W1, W1 = w.alloc (.cells #[.slice none 0 0, .slice none 0 0, .int .i64 0] 40) := ⟨_, rfl⟩
  have hB : Below w.heap.size w W1 := by rw [hW1]; exact (Below.refl _ w).alloc (Nat.le_refl _) _
  have hN : Has W1 w.heap.size #[.slice none 0 0, .slice none 0 0, .int .i64 0] 40 := by rw [hW1]; exact Has.new w _ _
  have H0 : Hid (Nw w W1 w.heap.size (.slice none 0 0) (.slice none 0 0) (fun _ => 0) 0 0) := ⟨Nat.le_refl _, hN, World.ownsRow_nil _ _ _ _, World.ownsRow_nil _ _ _ _, fun i hi => by omega, fun i hi => by omega, fun i j hi => by omega, hB⟩
  have HW1 := hidden hW1
  obtain ⟨r, hr⟩ : ∃ r, r = w.heap.size := ⟨_, rfl⟩
  rw [← hr] at H0
  have HR0 := hidden hr
  have hp1 := hp.1
  have hp2 := hp.2
  have hpi : (p : Int) ≤ 8 := by omega
  clear hW1 hB hN hp hr
  go_enter Try.func8, Try.ntmps8
  go_wp2_with fail
  rw [← HW1.out, ← HR0.out]
  go_loopw [5] (fun iv wr => ∃ (q : Int) (qn : Nat) (rv ov : Value) (rb : Nat → Nat), iv = .int .i64 q ∧ Hid (q = qn ∧ Nw w wr r rv ov rb qn qn) ∧ 0 ≤ q ∧ q ≤ (p : Int)) (fun iv _ => p - (intOf iv).toNat)
  case atStart => exact ⟨0, 0, _, _, _, rfl, ⟨rfl, H0.out⟩, by omega, by omega⟩
  case round =>
    obtain ⟨q, qn, rv, ov, rb, rfl, HR, j1, j2⟩ := hrel
    by_cases hlt : q < (p : Int)
    · have HW := hidden HR.out.2
      have HP : Hid (qn ≤ 8) := by have := HR.out.1; unfold Hid; omega
      have HRV := hidden (own_len HR.out.2.rows)
      have HQ := hidden HR.out.1
      clear HR
      go_upto_region 7 with fail
      refine Ord.wp_region_ex0 (X := Value) (by kernel_rfl) 39 (fun x => [(some 19, .pointer (some ⟨r, 0, none⟩)), (some 20, .pointer (some ⟨r, 0, none⟩)), (some 21, .pointer (some ⟨r, 0, none⟩)), (some 22, .pointer (some ⟨r, 0, none⟩)), (some 23, rv), (some 24, .slice (some ⟨wr.heap.size, 0, none⟩) 2 2), (some 25, .slice (some ⟨wr.heap.size + 1, 0, none⟩) 1 1), (some 26, x), (some 27, .pointer (some ⟨r, 0, none⟩)), (some 28, .pointer (some ⟨r, 0, none⟩)), (none, undef)]) [some 19, some 20, some 21, some 22, some 23, some 24, some 25, some 26, some 27, some 28, none] rfl (fun listed hsz hr => Ord.all_listedC (rank := [0, 1, 2, 3, 4, 5, 6, 7, 8, 9, 10]) (by kernel_rfl) hsz hr) (by rfl) (fun _ => rfl) (by kernel_rfl) (Rg.StM [5, 6, 7, 10] (fun k x w' => NeA w wr r rv ov rb qn k x w')) (fun _ _ _ _ hL h => h.ext (n := 11) (by decide) hL) ?_ ?_ undef ?_
      case refine_1 =>
        intro x Lq iq oq ac w' ho hi hcl hdep hF hW
        have f1 : ac.tmps.size = 39 := hF.1
        match iq, ho, hi, hdep with
        | 0, ho, hi, hdep =>
          cases ho
          have da0 : ac.eval (.tmp 4) = .pointer (some ⟨r, 0, none⟩) := hF.old 4 rfl
          exact Ord.ex_value x rfl rfl (Rg.mv da0 rfl) rfl (hW.keep (by decide))
        | 1, ho, hi, hdep =>
          cases ho
          have da0 : ac.eval (.tmp 4) = .pointer (some ⟨r, 0, none⟩) := hF.old 4 rfl
          exact Ord.ex_value x rfl rfl (Rg.mv da0 rfl) rfl (hW.keep (by decide))
        | 2, ho, hi, hdep =>
          cases ho
          have da0 : ac.eval (.tmp 20) = .pointer (some ⟨r, 0, none⟩) := hF.2.2.2 1 20 _ rfl (hdep ⟨1, .data⟩ (by simp) rfl)
          exact Ord.ex_value x rfl rfl (Rg.nilc da0 rfl) rfl (hW.keep (by decide))
        | 3, ho, hi, hdep =>
          cases ho
          have da0 : ac.eval (.tmp 21) = .pointer (some ⟨r, 0, none⟩) := hF.2.2.2 2 21 _ rfl (hdep ⟨2, .data⟩ (by simp) rfl)
          exact Ord.ex_value x rfl rfl (Rg.fa da0 rfl (by simp [go_sem])) rfl (hW.keep (by decide))
        | 4, ho, hi, hdep =>
          cases ho
          have da0 : ac.eval (.tmp 22) = .pointer (some ⟨r, 0, none⟩) := hF.2.2.2 3 22 _ rfl (hdep ⟨3, .data⟩ (by simp) rfl)
          obtain ⟨kq, hlo, hhi, hA⟩ := hW.range 0 2 (.inl rfl) (.inr ⟨7, rfl, (Rg.no_of (fun h => hcl 7 _ rfl (h) ⟨4, .data⟩ (by simp) rfl) hi)⟩)
          exact Ord.ex_value x rfl rfl (Rg.load da0 rfl (by obtain ⟨ra, rcap, hrv⟩ := HRV.out; have hc := hA.cell HW.out hhi; rw [hrv] at hc ⊢; simp [go_sem, hc])) rfl (hW.keep (by decide))
        | 5, ho, hi, hdep =>
          cases ho
          have hA := hW.at (k := 0) rfl hi (.inl rfl)
          have hw := hA.h0 rfl
          subst hw
          exact Ord.ex_value x rfl rfl (mks rfl rfl rfl (run_mk2 _)) rfl (hW.next (k := 0) rfl (by decide) hi (.inl rfl) ⟨fun e => absurd e (by decide), fun _ => rfl, fun e => absurd e (by decide), fun e => absurd e (by decide), fun e => absurd e (by decide)⟩)
        | 6, ho, hi, hdep =>
          cases ho
          have da0 : ac.eval (.tmp 24) = .slice (some ⟨wr.heap.size, 0, none⟩) 2 2 := hF.2.2.2 5 24 _ rfl (hdep ⟨5, .data⟩ (by simp) rfl)
          have hA := hW.at (k := 1) rfl hi (.inr ⟨5, rfl, (hdep ⟨5, .data⟩ (by simp) rfl)⟩)
          have hw := hA.h1 rfl
          subst hw
          exact Ord.ex_value x rfl rfl (Rg.bsl rfl (by simp [da0]) (run_bsR _ _)) (by simp) (hW.next (k := 1) rfl (by decide) hi (.inr ⟨5, rfl, (hdep ⟨5, .data⟩ (by simp) rfl)⟩) ⟨fun e => absurd e (by decide), fun e => absurd e (by decide), fun _ => rfl, fun e => absurd e (by decide), fun e => absurd e (by decide)⟩)
        | 7, ho, hi, hdep =>
          cases ho
          have da0 : ac.eval (.tmp 23) = rv := hF.2.2.2 4 23 _ rfl (hdep ⟨4, .data⟩ (by simp) rfl)
          have da1 : ac.eval (.tmp 25) = .slice (some ⟨wr.heap.size + 1, 0, none⟩) 1 1 := hF.2.2.2 6 25 _ rfl (hdep ⟨6, .data⟩ (by simp) rfl)
          have hA := hW.at (k := 2) rfl hi (.inr ⟨6, rfl, (hdep ⟨6, .data⟩ (by simp) rfl)⟩)
          obtain ⟨v', w2, hr, hA2⟩ := hA.three HW.out HP.out 37
          exact Ord.ex_letter x v' rfl rfl (Rg.app da0 da1 rfl hr) rfl (fun j hj => match j, hj with | 0, _ => rfl | 1, _ => rfl | 2, _ => rfl | 3, _ => rfl | 4, _ => rfl | 5, _ => rfl | 6, _ => rfl | 7, hj => absurd hj (by rw [hi]; decide) | 8, _ => rfl | 9, _ => rfl | 10, _ => rfl | _ + 11, _ => rfl) (hW.next (k := 2) rfl (by decide) hi (.inr ⟨6, rfl, (hdep ⟨6, .data⟩ (by simp) rfl)⟩) hA2)
        | 8, ho, hi, hdep =>
          cases ho
          have da0 : ac.eval (.tmp 19) = .pointer (some ⟨r, 0, none⟩) := hF.2.2.2 0 19 _ rfl (hdep ⟨0, .data⟩ (by simp) rfl)
          exact Ord.ex_value x rfl rfl (Rg.nilc da0 rfl) rfl (hW.keep (by decide))
        | 9, ho, hi, hdep =>
          cases ho
          have da0 : ac.eval (.tmp 27) = .pointer (some ⟨r, 0, none⟩) := hF.2.2.2 8 27 _ rfl (hdep ⟨8, .data⟩ (by simp) rfl)
          exact Ord.ex_value x rfl rfl (Rg.fa da0 rfl (by simp [go_sem])) rfl (hW.keep (by decide))
        | 10, ho, hi, hdep =>
          cases ho
          have da0 : ac.eval (.tmp 28) = .pointer (some ⟨r, 0, none⟩) := hF.2.2.2 9 28 _ rfl (hdep ⟨9, .data⟩ (by simp) rfl)
          have da1 : ac.eval (.tmp 26) = x := hF.2.2.2 7 26 _ rfl (hdep ⟨7, .data⟩ (by simp) rfl)
          have hA := hW.at (k := 3) rfl hi (.inr ⟨7, rfl, (hdep ⟨7, .data⟩ (by simp) rfl)⟩)
          obtain ⟨hr, hA2⟩ := hA.four HW.out
          exact Rg.ex_skip x rfl rfl (Rg.sto da0 da1 rfl hr) rfl (hW.next (k := 3) rfl (by decide) hi (.inr ⟨7, rfl, (hdep ⟨7, .data⟩ (by simp) rfl)⟩) hA2)
      case refine_3 => exact Rg.StM.first ⟨fun _ => rfl, fun e => absurd e (by decide), fun e => absurd e (by decide), fun e => absurd e (by decide), fun e => absurd e (by decide)⟩
      case refine_2 =>
        intro x w2 hW
        have h4 := hW.last.h4 rfl
        have cn := h4.net.cell 1 rfl
        obtain ⟨oa, oc, hov⟩ := own_len h4.offs
        obtain ⟨v', w3, hr3, ⟨u, cu⟩, fu, hNw, va, vc, hv'⟩ := h4.mark HP.out
        have cn' : w2.cell? ⟨r, 1, none⟩ = some (.slice oa qn oc) := by rw [← hov]; exact cn
        rw [hov] at hr3
        rw [hv'] at hr3 hNw
        have hr2 : r < w2.heap.size := h4.net.lt
        have HR3 := hidden hr3
        have HNw := hidden hNw
        clear hW h4 cn hr3 hNw hov hv'
        simp only [Ord.puts, Ord.prs]
        go_simp
        go_wp2_with (at_builtin; refine Rg.wpList_app rfl _ _ 38 rfl rfl rfl HR3.out ?_)
        go_roundw
        case rel => exact ⟨_, qn + 1, _, _, _, rfl, ⟨by have := HQ.out; omega, HNw.out⟩, by omega, by omega⟩
        case measure => simp [intOf]; omega
    · have hqp : qn = p := by have := HR.out.1; omega
      subst hqp
      have HF := hidden HR.out.2
      clear HR
      go_wp2
      go_ret2
      exact ⟨r, rfl, ⟨rv, ov, rb, HF.out.ro⟩, HF.out.bel⟩
end Go.Proofs.Ytmogacccffkkbaa.Nt
