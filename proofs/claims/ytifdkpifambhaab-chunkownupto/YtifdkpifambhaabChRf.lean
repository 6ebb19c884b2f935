/-
  The document's reader: a value.
  Conditions: the numbers lie within their kinds, the cells hold them.
-/
import Derived.Test.YtifdkpifambhaabChRd
namespace Go.Proofs.Ytifdkpifambhaab.Chu
open Go.ChangeShapes Go.WideShapes Go.ChangeAt Go.RowKit
open Par (hidden Bytes Row Prm Prms cell_lt Cap cells_new cutA thrown form_of)
set_option linter.unusedVariables false
attribute [local go_sem ↓] execOp_ld execOp_bx execOp_st
attribute [local go_sem] run_box

/-- what params tells, as a fact -/
def Pz (W : World) (v : List Int) (c c' : Ck) (er : Int) (w2 : World) : Prop := Below W.drew.heap.size W.drew w2 ∧ ∃ l q cd, Par.Out v l q cd ∧ ((cd ≠ 0 ∧ er = cd) ∨ (cd = 0 ∧ beat c.kind = true ∧ ¬ OneBeat l ∧ er = 61) ∨ (cd = 0 ∧ (beat c.kind = true → OneBeat l) ∧ er = 0 ∧ val c' = { val c with ps := l } ∧ Lsts W.drew.heap.size w2 c'))
section
variable {a : Act} {o : Oper} {w : World}
theorem e_ldc' {B : Nat} {c : Ck} (x : Operand) (hu : a.eval x = .pointer (some ⟨B, 0, none⟩)) (ho : o.op = .load 39 x) (hb : Bx w B c) : (execOp a.eval o).run Try.prog w = .ok (.value (cv c)) w := by
  unfold execOp
  rw [ho]
  simp only [hu]
  exact Ord.run_v hb.ld
theorem o_sl {b off len cap : Nat} {A : Option Addr} (x : Operand) (hx : a.eval x = .slice (some ⟨b, off, none⟩) len cap) (ho : o.op = .slice 22 x (some (.const (.int .i64 16))) none none) (hA : (if cap = 16 then (some ⟨b, off, none⟩ : Option Addr) else some ⟨b, off + 16, none⟩) = A) (h1 : 16 ≤ len) (h2 : len ≤ cap) : (execOp a.eval o).run Try.prog w = .ok (.value (.slice A (len - 16) (cap - 16))) w := by
  have i1 : (16 : Int) ≤ (len : Int) := by omega
  have i2 : (len : Int) ≤ (cap : Int) := by omega
  have i3 : (16 : Int) ≤ (cap : Int) := by omega
  unfold execOp
  rw [ho, ← hA]
  simp only [hx]
  go_simp
theorem o_par {u0 u1 : Value} (x y : Operand) (h0 : a.eval x = u0) (h1 : a.eval y = u1) (ho : o.op = .call { callee := .value (.func 39), args := #[x, y], argTypes := #[39, 22] }) : (execOp a.eval o).run Try.prog w = .ok (.enter 39 #[u0, u1]) w := by
  unfold execOp
  rw [ho]
  go_simp
  exact ⟨by cases x <;> simpa [Act.eval] using h0, by cases y <;> simpa [Act.eval] using h1⟩
theorem o_ex {n : Nat} {vs : Array Value} {u : Value} (x : Operand) (h0 : a.eval x = .tuple vs) (hn : vs[n]? = some u) (ho : o.op = .extract x n) : (execOp a.eval o).run Try.prog w = .ok (.value u) w := by
  unfold execOp
  rw [ho]
  simp only [h0]
  simp [go_sem, hn]
theorem o_as {v : Value} (x : Operand) (ho : o.op = .assign x) (hx : a.eval x = v) : (execOp a.eval o).run Try.prog w = .ok (.value v) w := by
  unfold execOp
  rw [ho]
  simp only [hx]
  rfl
theorem o_sto {p u : Value} {w' : World} (x y : Operand) (h0 : a.eval x = p) (h1 : a.eval y = u) (ho : o.op = .store 39 x y) (hr : (sto p u).run Try.prog w = .ok () w') : (execOp a.eval o).run Try.prog w = .ok .skip w' := by
  obtain ⟨d, op, ty, ps, af, gd⟩ := o
  simp only at ho
  subst ho
  rw [execOp_st, h0, h1]
  simp only [Sem.run_bind, hr, Result.andThen_ok, Sem.run_pure]
end
set_option maxRecDepth 20000 in
set_option maxHeartbeats 1000000 in
theorem read1 (base : Nat) (w : World) (a : Option Addr) (len cap : Nat) (v : List Int) (f : Int) (hf : 0 ≤ f ∧ f < 256) (hr : Row base w a len v) (hlc : len ≤ cap) (hnn : a = none → len = 0 ∧ cap = 0) :
    Calls Try.prog 17 #[cv (kf 1 f), .slice a len cap] w fun e w' => RdR w v 1 (zch 1 (flg 1 f)) e w' := by
  have S0 := Ds.start w (kf 1 f) (kf_lsts 1 f)
  have hcc : (cc (zck 0)) = #[.int .u8 0, .int .u8 0, .int .u32 0, .int .u16 0, .int .u16 0, .int .u32 0, .int .u32 0, .int .u32 0, .int .u16 0, .int .u16 0, .slice none 0 0, .slice none 0 0, .slice none 0 0, .slice none 0 0, .slice none 0 0] := rfl
  rw [hcc] at S0
  have HS := hidden S0
  have hzl := hr.1
  have hlim := hr.2.2.1
  have HR := hidden hr
  have HBY := hidden hr.2.1
  clear S0 hcc hr
  have hfl : flg 1 f = 0 := by simp [flg]
  rw [hfl]
  have hFil : ∀ l q cd er y, 16 ≤ v.length → Par.Out (v.drop 16) l q cd → ((cd ≠ 0 ∧ er = cd) ∨ (cd = 0 ∧ er = 0 ∧ y = { zch 1 0 with tag := n4 v 0, win := n4 v 4, out := n2 v 8, inn := n2 v 10, tsn := n4 v 12, ps := l })) → Fil 1 v (zch 1 0) er y := by
    intro l q cd er y hl hO h
    unfold Fil
    rw [if_neg (show ¬ v.length < nb 1 from (show ¬ v.length < 16 by omega)), if_neg (by decide), if_neg (by decide), if_neg (by decide), if_pos (by decide)]
    exact ⟨l, q, cd, hO, h⟩
  have HFil := hidden hFil
  clear hFil
  go_enter Try.func17, Try.ntmps17
  go_upto_region 1 with fail
  generalize hW : World.alloc (World.alloc w (.cells (cc (kf 1 f)) 39)) _ = W at *
  clear hW
  have q0 : W.cell? ⟨w.heap.size, 0, none⟩ = some (.int .u8 1) := HS.out.1.c0
  have q1 : W.cell? ⟨w.heap.size, 1, none⟩ = some (.int .u8 f) := HS.out.1.c1
  have z1 := HS.out.1.fr 1
  rcases Nat.lt_or_ge len 16 with hlt | hge
  · have hlt' : (len : Int) < 16 := by omega
    obtain ⟨f1, f2, f3, f4, f5⟩ := HS.out.fin
    have F3 := hidden f3
    have F4 := hidden f4
    clear f3 f4 f5
    go_wp2
    exact bodyPost_ret (v := .tuple #[cv (kf 1 f), .int .i64 61]) (cell_res2 Try.results17 F3.out _ rfl rfl) rfl (rd_bad (fun y => by unfold Fil; rw [if_pos (show v.length < nb 1 from (show v.length < 16 by omega))]) (by decide) F4.out)
  have hge' : ¬ (len : Int) < 16 := by omega
  obtain ⟨b, off, rfl, _, _⟩ := HR.out.2.2.2.resolve_left (by omega)
  have s1 : Ds w (W.setCell ⟨w.heap.size, 1, none⟩ (.int .u8 0)) (kf 1 0) := HS.out.store (HS.out.1.s1 0) (kf_lsts _ _ _ _)
  have HS1 := hidden s1
  clear s1
  go_wp2_with fail
  clear q0 q1 z1
  generalize W.setCell ⟨w.heap.size, 1, none⟩ (.int .u8 0) = W1 at *
  have HR1 := hidden (HR.out.later HS1.out.2.2.1)
  have q2 := HS1.out.1.c2
  have z2 := HS1.out.1.fr 2
  have q6 := HS1.out.1.c6
  have z6 := HS1.out.1.fr 6
  have q7 := HS1.out.1.c7
  have z7 := HS1.out.1.fr 7
  have q8 := HS1.out.1.c8
  have z8 := HS1.out.1.fr 8
  have q9 := HS1.out.1.c9
  have z9 := HS1.out.1.fr 9
  have s2 := HS1.out.store (HS1.out.1.s6 (n4 v 0)) HS1.out.2.2.2.2
  have s3 := s2.store (s2.1.s7 (n4 v 4)) s2.2.2.2.2
  have s4 := s3.store (s3.1.s8 (n2 v 8)) s3.2.2.2.2
  have s5 := s4.store (s4.1.s9 (n2 v 10)) s4.2.2.2.2
  have s6 := s5.store (s5.1.s2 (n4 v 12)) s5.2.2.2.2
  have HS5 := hidden s6
  have wb4 := n2_bound HBY.out 8
  have wb6 := n2_bound HBY.out 10
  have hw : ∀ z : Int, IntKind.u16.wrap z = z % 65536 := fun _ => rfl
  have hx4 : n2 v 8 % 65536 = n2 v 8 := by omega
  have hx6 : n2 v 10 % 65536 = n2 v 10 := by omega
  clear s2 s3 s4 s5 s6
  refine Calls.mono (rGet4 base W1 _ len cap 0 v HR1.out (by omega)) ?_
  rintro e wz ⟨rfl, rfl⟩
  go_wp2_with fail
  refine Calls.mono (rGet4 base W1 _ len cap 4 v HR1.out (by omega)) ?_
  rintro e wz ⟨rfl, rfl⟩
  go_wp2_with fail
  refine Calls.mono (rGet2 base W1 _ len cap 8 v HR1.out (by omega)) ?_
  rintro e wz ⟨rfl, rfl⟩
  go_wp2_with fail
  refine Calls.mono (rGet2 base W1 _ len cap 10 v HR1.out (by omega)) ?_
  rintro e wz ⟨rfl, rfl⟩
  go_wp2_with fail
  refine Calls.mono (rGet4 base W1 _ len cap 12 v HR1.out (by omega)) ?_
  rintro e wz ⟨rfl, rfl⟩
  go_upto_region 17 with fail
  generalize World.setCell _ ⟨w.heap.size, 2, none⟩ (.int .u32 (n4 v 12)) = W5 at *
  clear q2 q6 q7 q8 q9 z2 z6 z7 z8 z9 hw hx4 hx6
  generalize hc5 : ({ kf 1 0 with tag := n4 v 0, win := n4 v 4, out := n2 v 8, inn := n2 v 10, tsn := n4 v 12 } : Ck) = c5 at HS5
  have HC5 := hidden (show val c5 = { zch 1 0 with tag := n4 v 0, win := n4 v 4, out := n2 v 8, inn := n2 v 10, tsn := n4 v 12 } by rw [← hc5]; rfl)
  have HK5 := hidden (show c5.kind = 1 by rw [← hc5]; rfl)
  have HL5 := hidden (show ∀ nn w, Lsts nn w c5 by rw [← hc5]; exact fun nn w => zck_lsts nn 1 w)
  clear hc5
  obtain ⟨A4, hA4⟩ : ∃ A4, (if cap = 16 then (some ⟨b, off, none⟩ : Option Addr) else some ⟨b, off + 16, none⟩) = A4 := ⟨_, rfl⟩
  have HA4 := hidden (show cutA (some ⟨b, off, none⟩) cap 16 = A4 by rw [← hA4]; unfold cutA Addr.add; rfl)
  have HRD := hidden (show Row base W5 A4 (len - 16) (v.drop 16) by rw [← HA4.out]; exact Par.cutA_row (HR.out.later HS5.out.2.2.1) (by omega) hlc hnn)
  have HNA := hidden (show A4 = none → len - 16 = 0 ∧ cap - 16 = 0 by rw [← HA4.out]; exact Par.cutA_none hnn)
  have i4 : (16 : Int) ≤ (cap : Int) := by omega
  have i5 : (16 : Int) ≤ (len : Int) := by omega
  have HSD : Ds w W5.drew c5 := HS5.out.later (Par.below_drewN (Below.refl _ _) 1)
  have PA := hidden (rParams base W5.drew A4 (len - 16) (cap - 16) (v.drop 16) c5 HRD.out (by omega) HNA.out HL5.out)
  have HSDH := hidden HSD
  clear HSD
  refine Ord.wp_region_all (by kernel_rfl) (fun L ac x => ac.tmps.size = 135 ∧ ac.defers = [] ∧ ac.eval (.tmp 1) = .slice (some ⟨b, off, none⟩) len cap ∧ ac.eval (.tmp 2) = .pointer (some ⟨w.heap.size, 0, none⟩) ∧ ac.eval (.tmp 4) = .pointer (some ⟨w.heap.size + 1, 0, none⟩) ∧ (L 0 = true → ac.eval (.tmp 67) = cv c5) ∧ (L 1 = true → ac.eval (.tmp 68) = .slice (some ⟨b, off, none⟩) len cap) ∧ (L 2 = true → ac.eval (.tmp 69) = .slice A4 (len - 16) (cap - 16)) ∧
      ((L 3 = false ∧ x = W5.drew) ∨ ∃ c' er w2, Pz W5 (v.drop 16) c5 c' er w2 ∧ L 3 = true ∧ ac.eval (.tmp 70) = .tuple #[cv c', .int .i64 er] ∧ (L 4 = true → ac.eval (.tmp 71) = cv c') ∧ (L 5 = true → ac.eval (.tmp 72) = .int .i64 er) ∧ (L 7 = true → ac.eval (.tmp 5) = .int .i64 er) ∧ x = (if L 6 = true then stoW w2 (w.heap.size + 1) c' else w2))) (by kernel_rfl) ?_ ?_ ?_ ?_
  case refine_1 =>
    intro L i o ac x ho hi hcl hdep hG
    obtain ⟨g1, g2, k1, k2, k4, s0, s1, s2, hx⟩ := hG
    have bx : Below W5.drew.heap.size W5.drew x ∨ L 6 = true := by
      rcases hx with ⟨_, rfl⟩ | ⟨c', er, w2, hp, _, _, _, _, _, rfl⟩
      · exact .inl (Below.refl _ _)
      · cases h6 : L 6 with
        | true => exact .inr rfl
        | false => exact .inl (by simpa using hp.1)
    match i, ho, hi with
    | 0, ho, hi =>
      cases ho
      have b6 : L 6 = false := by
        cases h : L 6 with
        | false => rfl
        | true =>
          have h4 := hcl 6 _ rfl h ⟨4, .data⟩ (by simp) rfl
          have h3 := hcl 4 _ rfl h4 ⟨3, .data⟩ (by simp) rfl
          exact absurd (hcl 3 _ rfl h3 ⟨0, .data⟩ (by simp) rfl) (by rw [hi]; decide)
      have hb := bx.resolve_right (by rw [b6]; decide)
      refine Ord.wpOp_of rfl rfl (Ord.wp_value (v := cv c5) (w' := x) (e_ldc' _ k2 rfl (HSDH.out.later hb).1) ?_)
      exact ⟨(Ord.size_put _ 67 _).trans g1, g2, (Ord.eval_put_other _ 67 1 _ (by decide)).trans k1, (Ord.eval_put_other _ 67 2 _ (by decide)).trans k2, (Ord.eval_put_other _ 67 4 _ (by decide)).trans k4, fun _ => Ord.eval_put_same _ _ _ (by rw [g1]; decide), fun h => (Ord.eval_put_other _ 67 68 _ (by decide)).trans (s1 (by simpa [Ord.upd] using h)), fun h => (Ord.eval_put_other _ 67 69 _ (by decide)).trans (s2 (by simpa [Ord.upd] using h)), (by
        rcases hx with ⟨h3, rfl⟩ | ⟨c', er, w2, hp, h3, e70, s4, s5, s7, hx⟩
        · exact .inl ⟨by simpa [Ord.upd] using h3, rfl⟩
        · exact .inr ⟨c', er, w2, hp, by simpa [Ord.upd] using h3, (Ord.eval_put_other _ 67 70 _ (by decide)).trans e70, fun h => (Ord.eval_put_other _ 67 71 _ (by decide)).trans (s4 (by simpa [Ord.upd] using h)), fun h => (Ord.eval_put_other _ 67 72 _ (by decide)).trans (s5 (by simpa [Ord.upd] using h)), fun h => (Ord.eval_put_other _ 67 5 _ (by decide)).trans (s7 (by simpa [Ord.upd] using h)), by simpa [Ord.upd] using hx⟩)⟩
    | 1, ho, hi =>
      cases ho
      refine Ord.wpOp_of rfl rfl (Ord.wp_value (w' := x) (o_mv _ rfl k1) ?_)
      exact ⟨(Ord.size_put _ 68 _).trans g1, g2, (Ord.eval_put_other _ 68 1 _ (by decide)).trans k1, (Ord.eval_put_other _ 68 2 _ (by decide)).trans k2, (Ord.eval_put_other _ 68 4 _ (by decide)).trans k4, fun h => (Ord.eval_put_other _ 68 67 _ (by decide)).trans (s0 (by simpa [Ord.upd] using h)), fun _ => Ord.eval_put_same _ _ _ (by rw [g1]; decide), fun h => (Ord.eval_put_other _ 68 69 _ (by decide)).trans (s2 (by simpa [Ord.upd] using h)), (by
        rcases hx with ⟨h3, rfl⟩ | ⟨c', er, w2, hp, h3, e70, s4, s5, s7, hx⟩
        · exact .inl ⟨by simpa [Ord.upd] using h3, rfl⟩
        · exact .inr ⟨c', er, w2, hp, by simpa [Ord.upd] using h3, (Ord.eval_put_other _ 68 70 _ (by decide)).trans e70, fun h => (Ord.eval_put_other _ 68 71 _ (by decide)).trans (s4 (by simpa [Ord.upd] using h)), fun h => (Ord.eval_put_other _ 68 72 _ (by decide)).trans (s5 (by simpa [Ord.upd] using h)), fun h => (Ord.eval_put_other _ 68 5 _ (by decide)).trans (s7 (by simpa [Ord.upd] using h)), by simpa [Ord.upd] using hx⟩)⟩
    | 2, ho, hi =>
      cases ho
      have da := s1 (hdep ⟨1, .data⟩ (by simp) rfl)
      refine Ord.wpOp_of rfl rfl (Ord.wp_value (v := .slice A4 (len - 16) (cap - 16)) (w' := x) (o_sl _ da rfl hA4 (by omega) (by omega)) ?_)
      exact ⟨(Ord.size_put _ 69 _).trans g1, g2, (Ord.eval_put_other _ 69 1 _ (by decide)).trans k1, (Ord.eval_put_other _ 69 2 _ (by decide)).trans k2, (Ord.eval_put_other _ 69 4 _ (by decide)).trans k4, fun h => (Ord.eval_put_other _ 69 67 _ (by decide)).trans (s0 (by simpa [Ord.upd] using h)), fun h => (Ord.eval_put_other _ 69 68 _ (by decide)).trans (s1 (by simpa [Ord.upd] using h)), fun _ => Ord.eval_put_same _ _ _ (by rw [g1]; decide), (by
        rcases hx with ⟨h3, rfl⟩ | ⟨c', er, w2, hp, h3, e70, s4, s5, s7, hx⟩
        · exact .inl ⟨by simpa [Ord.upd] using h3, rfl⟩
        · exact .inr ⟨c', er, w2, hp, by simpa [Ord.upd] using h3, (Ord.eval_put_other _ 69 70 _ (by decide)).trans e70, fun h => (Ord.eval_put_other _ 69 71 _ (by decide)).trans (s4 (by simpa [Ord.upd] using h)), fun h => (Ord.eval_put_other _ 69 72 _ (by decide)).trans (s5 (by simpa [Ord.upd] using h)), fun h => (Ord.eval_put_other _ 69 5 _ (by decide)).trans (s7 (by simpa [Ord.upd] using h)), by simpa [Ord.upd] using hx⟩)⟩
    | 3, ho, hi =>
      cases ho
      have da := s0 (hdep ⟨0, .data⟩ (by simp) rfl)
      have db := s2 (hdep ⟨2, .data⟩ (by simp) rfl)
      have hx0 : x = W5.drew := by
        rcases hx with ⟨_, h⟩ | ⟨_, _, _, _, h3, _⟩
        · exact h
        · rw [hi] at h3; cases h3
      have l4 : L 4 = false := by
        cases h : L 4 with
        | false => rfl
        | true => exact absurd (hcl 4 _ rfl h ⟨3, .data⟩ (by simp) rfl) (by rw [hi]; decide)
      have l5 : L 5 = false := by
        cases h : L 5 with
        | false => rfl
        | true => exact absurd (hcl 5 _ rfl h ⟨3, .data⟩ (by simp) rfl) (by rw [hi]; decide)
      have l6 : L 6 = false := by
        cases h : L 6 with
        | false => rfl
        | true => exact absurd (hcl 6 _ rfl h ⟨4, .data⟩ (by simp) rfl) (by rw [l4]; decide)
      have l7 : L 7 = false := by
        cases h : L 7 with
        | false => rfl
        | true => exact absurd (hcl 7 _ rfl h ⟨5, .data⟩ (by simp) rfl) (by rw [l5]; decide)
      subst hx0
      refine Ord.wpOp_of rfl rfl ?_
      unfold Oper.wp
      rw [o_par _ _ da db rfl]
      refine Calls.mono PA.out ?_
      rintro e w2 ⟨c', er, rfl, b2, l, q, cd, hO, h⟩
      exact ⟨(Ord.size_put _ 70 _).trans g1, g2, (Ord.eval_put_other _ 70 1 _ (by decide)).trans k1, (Ord.eval_put_other _ 70 2 _ (by decide)).trans k2, (Ord.eval_put_other _ 70 4 _ (by decide)).trans k4, fun h => (Ord.eval_put_other _ 70 67 _ (by decide)).trans (s0 (by simpa [Ord.upd] using h)), fun h => (Ord.eval_put_other _ 70 68 _ (by decide)).trans (s1 (by simpa [Ord.upd] using h)), fun h => (Ord.eval_put_other _ 70 69 _ (by decide)).trans (s2 (by simpa [Ord.upd] using h)), .inr ⟨c', er, w2, ⟨b2, l, q, cd, hO, h⟩, by simp [Ord.upd], Ord.eval_put_same _ _ _ (by rw [g1]; decide), fun h' => absurd h' (by simp [Ord.upd, l4]), fun h' => absurd h' (by simp [Ord.upd, l5]), fun h' => absurd h' (by simp [Ord.upd, l7]), by simp [Ord.upd, l6]⟩⟩
    | 4, ho, hi =>
      cases ho
      have l3 : L 3 = true := hdep ⟨3, .data⟩ (by simp) rfl
      obtain ⟨c', er, w2, hp, h3, e70, s4, s5, s7, hx⟩ := hx.resolve_left (fun h => by rw [l3] at h; cases h.1)
      refine Ord.wpOp_of rfl rfl (Ord.wp_value (v := cv c') (w' := x) (o_ex (n := 0) _ e70 rfl rfl) ?_)
      exact ⟨(Ord.size_put _ 71 _).trans g1, g2, (Ord.eval_put_other _ 71 1 _ (by decide)).trans k1, (Ord.eval_put_other _ 71 2 _ (by decide)).trans k2, (Ord.eval_put_other _ 71 4 _ (by decide)).trans k4, fun h => (Ord.eval_put_other _ 71 67 _ (by decide)).trans (s0 (by simpa [Ord.upd] using h)), fun h => (Ord.eval_put_other _ 71 68 _ (by decide)).trans (s1 (by simpa [Ord.upd] using h)), fun h => (Ord.eval_put_other _ 71 69 _ (by decide)).trans (s2 (by simpa [Ord.upd] using h)), .inr ⟨c', er, w2, hp, by simpa [Ord.upd] using h3, (Ord.eval_put_other _ 71 70 _ (by decide)).trans e70, fun _ => Ord.eval_put_same _ _ _ (by rw [g1]; decide), fun h => (Ord.eval_put_other _ 71 72 _ (by decide)).trans (s5 (by simpa [Ord.upd] using h)), fun h => (Ord.eval_put_other _ 71 5 _ (by decide)).trans (s7 (by simpa [Ord.upd] using h)), by simpa [Ord.upd] using hx⟩⟩
    | 5, ho, hi =>
      cases ho
      have l3 : L 3 = true := hdep ⟨3, .data⟩ (by simp) rfl
      obtain ⟨c', er, w2, hp, h3, e70, s4, s5, s7, hx⟩ := hx.resolve_left (fun h => by rw [l3] at h; cases h.1)
      refine Ord.wpOp_of rfl rfl (Ord.wp_value (v := .int .i64 er) (w' := x) (o_ex (n := 1) _ e70 rfl rfl) ?_)
      exact ⟨(Ord.size_put _ 72 _).trans g1, g2, (Ord.eval_put_other _ 72 1 _ (by decide)).trans k1, (Ord.eval_put_other _ 72 2 _ (by decide)).trans k2, (Ord.eval_put_other _ 72 4 _ (by decide)).trans k4, fun h => (Ord.eval_put_other _ 72 67 _ (by decide)).trans (s0 (by simpa [Ord.upd] using h)), fun h => (Ord.eval_put_other _ 72 68 _ (by decide)).trans (s1 (by simpa [Ord.upd] using h)), fun h => (Ord.eval_put_other _ 72 69 _ (by decide)).trans (s2 (by simpa [Ord.upd] using h)), .inr ⟨c', er, w2, hp, by simpa [Ord.upd] using h3, (Ord.eval_put_other _ 72 70 _ (by decide)).trans e70, fun h => (Ord.eval_put_other _ 72 71 _ (by decide)).trans (s4 (by simpa [Ord.upd] using h)), fun _ => Ord.eval_put_same _ _ _ (by rw [g1]; decide), fun h => (Ord.eval_put_other _ 72 5 _ (by decide)).trans (s7 (by simpa [Ord.upd] using h)), by simpa [Ord.upd] using hx⟩⟩
    | 6, ho, hi =>
      cases ho
      have l4 : L 4 = true := hdep ⟨4, .data⟩ (by simp) rfl
      have l3 : L 3 = true := hcl 4 _ rfl l4 ⟨3, .data⟩ (by simp) rfl
      obtain ⟨c', er, w2, hp, h3, e70, s4, s5, s7, hx⟩ := hx.resolve_left (fun h => by rw [l3] at h; cases h.1)
      have hx0 : x = w2 := by rw [hx, hi]; simp
      subst hx0
      refine Ord.wpOp_of rfl rfl ?_
      unfold Oper.wp
      rw [o_sto _ _ k4 (s4 l4) rfl (HSDH.out.sub hp.1 c').1]
      exact ⟨g1, g2, k1, k2, k4, fun h => s0 (by simpa [Ord.upd] using h), fun h => s1 (by simpa [Ord.upd] using h), fun h => s2 (by simpa [Ord.upd] using h), .inr ⟨c', er, x, hp, by simpa [Ord.upd] using h3, e70, fun h => s4 (by simpa [Ord.upd] using h), fun h => s5 (by simpa [Ord.upd] using h), fun h => s7 (by simpa [Ord.upd] using h), by simp [Ord.upd]⟩⟩
    | 7, ho, hi =>
      cases ho
      have l3 : L 3 = true := hcl 5 _ rfl (hdep ⟨5, .data⟩ (by simp) rfl) ⟨3, .data⟩ (by simp) rfl
      obtain ⟨c', er, w2, hp, h3, e70, s4, s5, s7, hx⟩ := hx.resolve_left (fun h => by rw [l3] at h; cases h.1)
      refine Ord.wpOp_of rfl rfl (Ord.wp_value (v := .int .i64 er) (w' := x) (o_as _ rfl (s5 (hdep ⟨5, .data⟩ (by simp) rfl))) ?_)
      exact ⟨(Ord.size_put _ 5 _).trans g1, g2, (Ord.eval_put_other _ 5 1 _ (by decide)).trans k1, (Ord.eval_put_other _ 5 2 _ (by decide)).trans k2, (Ord.eval_put_other _ 5 4 _ (by decide)).trans k4, fun h => (Ord.eval_put_other _ 5 67 _ (by decide)).trans (s0 (by simpa [Ord.upd] using h)), fun h => (Ord.eval_put_other _ 5 68 _ (by decide)).trans (s1 (by simpa [Ord.upd] using h)), fun h => (Ord.eval_put_other _ 5 69 _ (by decide)).trans (s2 (by simpa [Ord.upd] using h)), .inr ⟨c', er, w2, hp, by simpa [Ord.upd] using h3, (Ord.eval_put_other _ 5 70 _ (by decide)).trans e70, fun h => (Ord.eval_put_other _ 5 71 _ (by decide)).trans (s4 (by simpa [Ord.upd] using h)), fun h => (Ord.eval_put_other _ 5 72 _ (by decide)).trans (s5 (by simpa [Ord.upd] using h)), fun _ => Ord.eval_put_same _ _ _ (by rw [g1]; decide), by simpa [Ord.upd] using hx⟩⟩
  case refine_2 =>
    intro L L' ac x hL ⟨g1, g2, k1, k2, k4, s0, s1, s2, hx⟩
    rw [hL 0 (by decide)] at s0
    rw [hL 1 (by decide)] at s1
    rw [hL 2 (by decide)] at s2
    rw [hL 3 (by decide), hL 4 (by decide), hL 5 (by decide), hL 6 (by decide), hL 7 (by decide)] at hx
    exact ⟨g1, g2, k1, k2, k4, s0, s1, s2, hx⟩
  case refine_3 =>
    intro ac x ⟨g1, g2, k1, k2, k4, s0, s1, s2, hx⟩
    obtain ⟨c', er, w2, hp, e3, e70, e4, e5, s7, rfl⟩ := hx.resolve_left (fun h => by cases h.1)
    have s7' := s7 rfl
    obtain ⟨t1, t2, t3, t4⟩ := HSDH.out.sub hp.1 c'
    rw [if_pos rfl]
    rename_i hKK
    refine hKK _ _ (wp_ret ?_)
    have h4 : ac.tmps.getD 4 undef = .pointer (some ⟨w.heap.size + 1, 0, none⟩) := k4
    have h5 : ac.tmps.getD 5 undef = .int .i64 er := s7'
    refine (show bodyPost Try.prog Try.f17 (fun e w' => RdR w v 1 (zch 1 0) e w') .ret ac _ from bodyPost_ret (v := .tuple #[cv c', .int .i64 er]) (cell_res2 Try.results17 t2 _ h4 h5) g2 ?_)
    obtain ⟨_, l, q, cd, hO, h⟩ := hp
    rcases h with ⟨h1, rfl⟩ | ⟨h1, h2, h3, rfl⟩ | ⟨h1, h2, rfl, h4', h5'⟩
    · exact RdR.of (W1 := W5.drew) (w2 := w2) (y := val c') (HFil.out l q _ _ _ (by omega) hO (.inl ⟨h1, rfl⟩)) (fun e => absurd e h1) t4 t3
    · rw [HK5.out] at h2
      exact absurd h2 (by decide)
    · exact RdR.of (W1 := W5.drew) (w2 := w2) (HFil.out l q _ _ _ (by omega) hO (.inr ⟨h1, rfl, rfl⟩)) (fun _ => ⟨by rw [h4', HC5.out], h5'⟩) t4 t3
  case refine_4 => exact ⟨rfl, rfl, rfl, rfl, rfl, (fun h => by cases h), (fun h => by cases h), (fun h => by cases h), .inl ⟨rfl, rfl⟩⟩
set_option maxRecDepth 20000 in
set_option maxHeartbeats 1000000 in
theorem read2 (base : Nat) (w : World) (a : Option Addr) (len cap : Nat) (v : List Int) (f : Int) (hf : 0 ≤ f ∧ f < 256) (hr : Row base w a len v) (hlc : len ≤ cap) (hnn : a = none → len = 0 ∧ cap = 0) :
    Calls Try.prog 17 #[cv (kf 2 f), .slice a len cap] w fun e w' => RdR w v 2 (zch 2 (flg 2 f)) e w' := by
  have S0 := Ds.start w (kf 2 f) (kf_lsts 2 f)
  have hcc : (cc (zck 0)) = #[.int .u8 0, .int .u8 0, .int .u32 0, .int .u16 0, .int .u16 0, .int .u32 0, .int .u32 0, .int .u32 0, .int .u16 0, .int .u16 0, .slice none 0 0, .slice none 0 0, .slice none 0 0, .slice none 0 0, .slice none 0 0] := rfl
  rw [hcc] at S0
  have HS := hidden S0
  have hzl := hr.1
  have hlim := hr.2.2.1
  have HR := hidden hr
  have HBY := hidden hr.2.1
  clear S0 hcc hr
  have hfl : flg 2 f = 0 := by simp [flg]
  rw [hfl]
  have hFil : ∀ l q cd er y, 16 ≤ v.length → Par.Out (v.drop 16) l q cd → ((cd ≠ 0 ∧ er = cd) ∨ (cd = 0 ∧ er = 0 ∧ y = { zch 2 0 with tag := n4 v 0, win := n4 v 4, out := n2 v 8, inn := n2 v 10, tsn := n4 v 12, ps := l })) → Fil 2 v (zch 2 0) er y := by
    intro l q cd er y hl hO h
    unfold Fil
    rw [if_neg (show ¬ v.length < nb 2 from (show ¬ v.length < 16 by omega)), if_neg (by decide), if_neg (by decide), if_neg (by decide), if_pos (by decide)]
    exact ⟨l, q, cd, hO, h⟩
  have HFil := hidden hFil
  clear hFil
  go_enter Try.func17, Try.ntmps17
  go_upto_region 1 with fail
  generalize hW : World.alloc (World.alloc w (.cells (cc (kf 2 f)) 39)) _ = W at *
  clear hW
  have q0 : W.cell? ⟨w.heap.size, 0, none⟩ = some (.int .u8 2) := HS.out.1.c0
  have q1 : W.cell? ⟨w.heap.size, 1, none⟩ = some (.int .u8 f) := HS.out.1.c1
  have z1 := HS.out.1.fr 1
  rcases Nat.lt_or_ge len 16 with hlt | hge
  · have hlt' : (len : Int) < 16 := by omega
    obtain ⟨f1, f2, f3, f4, f5⟩ := HS.out.fin
    have F3 := hidden f3
    have F4 := hidden f4
    clear f3 f4 f5
    go_wp2
    exact bodyPost_ret (v := .tuple #[cv (kf 2 f), .int .i64 61]) (cell_res2 Try.results17 F3.out _ rfl rfl) rfl (rd_bad (fun y => by unfold Fil; rw [if_pos (show v.length < nb 2 from (show v.length < 16 by omega))]) (by decide) F4.out)
  have hge' : ¬ (len : Int) < 16 := by omega
  obtain ⟨b, off, rfl, _, _⟩ := HR.out.2.2.2.resolve_left (by omega)
  have s1 : Ds w (W.setCell ⟨w.heap.size, 1, none⟩ (.int .u8 0)) (kf 2 0) := HS.out.store (HS.out.1.s1 0) (kf_lsts _ _ _ _)
  have HS1 := hidden s1
  clear s1
  go_wp2_with fail
  clear q0 q1 z1
  generalize W.setCell ⟨w.heap.size, 1, none⟩ (.int .u8 0) = W1 at *
  have HR1 := hidden (HR.out.later HS1.out.2.2.1)
  have q2 := HS1.out.1.c2
  have z2 := HS1.out.1.fr 2
  have q6 := HS1.out.1.c6
  have z6 := HS1.out.1.fr 6
  have q7 := HS1.out.1.c7
  have z7 := HS1.out.1.fr 7
  have q8 := HS1.out.1.c8
  have z8 := HS1.out.1.fr 8
  have q9 := HS1.out.1.c9
  have z9 := HS1.out.1.fr 9
  have s2 := HS1.out.store (HS1.out.1.s6 (n4 v 0)) HS1.out.2.2.2.2
  have s3 := s2.store (s2.1.s7 (n4 v 4)) s2.2.2.2.2
  have s4 := s3.store (s3.1.s8 (n2 v 8)) s3.2.2.2.2
  have s5 := s4.store (s4.1.s9 (n2 v 10)) s4.2.2.2.2
  have s6 := s5.store (s5.1.s2 (n4 v 12)) s5.2.2.2.2
  have HS5 := hidden s6
  have wb4 := n2_bound HBY.out 8
  have wb6 := n2_bound HBY.out 10
  have hw : ∀ z : Int, IntKind.u16.wrap z = z % 65536 := fun _ => rfl
  have hx4 : n2 v 8 % 65536 = n2 v 8 := by omega
  have hx6 : n2 v 10 % 65536 = n2 v 10 := by omega
  clear s2 s3 s4 s5 s6
  refine Calls.mono (rGet4 base W1 _ len cap 0 v HR1.out (by omega)) ?_
  rintro e wz ⟨rfl, rfl⟩
  go_wp2_with fail
  refine Calls.mono (rGet4 base W1 _ len cap 4 v HR1.out (by omega)) ?_
  rintro e wz ⟨rfl, rfl⟩
  go_wp2_with fail
  refine Calls.mono (rGet2 base W1 _ len cap 8 v HR1.out (by omega)) ?_
  rintro e wz ⟨rfl, rfl⟩
  go_wp2_with fail
  refine Calls.mono (rGet2 base W1 _ len cap 10 v HR1.out (by omega)) ?_
  rintro e wz ⟨rfl, rfl⟩
  go_wp2_with fail
  refine Calls.mono (rGet4 base W1 _ len cap 12 v HR1.out (by omega)) ?_
  rintro e wz ⟨rfl, rfl⟩
  go_upto_region 17 with fail
  generalize World.setCell _ ⟨w.heap.size, 2, none⟩ (.int .u32 (n4 v 12)) = W5 at *
  clear q2 q6 q7 q8 q9 z2 z6 z7 z8 z9 hw hx4 hx6
  generalize hc5 : ({ kf 2 0 with tag := n4 v 0, win := n4 v 4, out := n2 v 8, inn := n2 v 10, tsn := n4 v 12 } : Ck) = c5 at HS5
  have HC5 := hidden (show val c5 = { zch 2 0 with tag := n4 v 0, win := n4 v 4, out := n2 v 8, inn := n2 v 10, tsn := n4 v 12 } by rw [← hc5]; rfl)
  have HK5 := hidden (show c5.kind = 2 by rw [← hc5]; rfl)
  have HL5 := hidden (show ∀ nn w, Lsts nn w c5 by rw [← hc5]; exact fun nn w => zck_lsts nn 2 w)
  clear hc5
  obtain ⟨A4, hA4⟩ : ∃ A4, (if cap = 16 then (some ⟨b, off, none⟩ : Option Addr) else some ⟨b, off + 16, none⟩) = A4 := ⟨_, rfl⟩
  have HA4 := hidden (show cutA (some ⟨b, off, none⟩) cap 16 = A4 by rw [← hA4]; unfold cutA Addr.add; rfl)
  have HRD := hidden (show Row base W5 A4 (len - 16) (v.drop 16) by rw [← HA4.out]; exact Par.cutA_row (HR.out.later HS5.out.2.2.1) (by omega) hlc hnn)
  have HNA := hidden (show A4 = none → len - 16 = 0 ∧ cap - 16 = 0 by rw [← HA4.out]; exact Par.cutA_none hnn)
  have i4 : (16 : Int) ≤ (cap : Int) := by omega
  have i5 : (16 : Int) ≤ (len : Int) := by omega
  have HSD : Ds w W5.drew c5 := HS5.out.later (Par.below_drewN (Below.refl _ _) 1)
  have PA := hidden (rParams base W5.drew A4 (len - 16) (cap - 16) (v.drop 16) c5 HRD.out (by omega) HNA.out HL5.out)
  have HSDH := hidden HSD
  clear HSD
  refine Ord.wp_region_all (by kernel_rfl) (fun L ac x => ac.tmps.size = 135 ∧ ac.defers = [] ∧ ac.eval (.tmp 1) = .slice (some ⟨b, off, none⟩) len cap ∧ ac.eval (.tmp 2) = .pointer (some ⟨w.heap.size, 0, none⟩) ∧ ac.eval (.tmp 4) = .pointer (some ⟨w.heap.size + 1, 0, none⟩) ∧ (L 0 = true → ac.eval (.tmp 67) = cv c5) ∧ (L 1 = true → ac.eval (.tmp 68) = .slice (some ⟨b, off, none⟩) len cap) ∧ (L 2 = true → ac.eval (.tmp 69) = .slice A4 (len - 16) (cap - 16)) ∧
      ((L 3 = false ∧ x = W5.drew) ∨ ∃ c' er w2, Pz W5 (v.drop 16) c5 c' er w2 ∧ L 3 = true ∧ ac.eval (.tmp 70) = .tuple #[cv c', .int .i64 er] ∧ (L 4 = true → ac.eval (.tmp 71) = cv c') ∧ (L 5 = true → ac.eval (.tmp 72) = .int .i64 er) ∧ (L 7 = true → ac.eval (.tmp 5) = .int .i64 er) ∧ x = (if L 6 = true then stoW w2 (w.heap.size + 1) c' else w2))) (by kernel_rfl) ?_ ?_ ?_ ?_
  case refine_1 =>
    intro L i o ac x ho hi hcl hdep hG
    obtain ⟨g1, g2, k1, k2, k4, s0, s1, s2, hx⟩ := hG
    have bx : Below W5.drew.heap.size W5.drew x ∨ L 6 = true := by
      rcases hx with ⟨_, rfl⟩ | ⟨c', er, w2, hp, _, _, _, _, _, rfl⟩
      · exact .inl (Below.refl _ _)
      · cases h6 : L 6 with
        | true => exact .inr rfl
        | false => exact .inl (by simpa using hp.1)
    match i, ho, hi with
    | 0, ho, hi =>
      cases ho
      have b6 : L 6 = false := by
        cases h : L 6 with
        | false => rfl
        | true =>
          have h4 := hcl 6 _ rfl h ⟨4, .data⟩ (by simp) rfl
          have h3 := hcl 4 _ rfl h4 ⟨3, .data⟩ (by simp) rfl
          exact absurd (hcl 3 _ rfl h3 ⟨0, .data⟩ (by simp) rfl) (by rw [hi]; decide)
      have hb := bx.resolve_right (by rw [b6]; decide)
      refine Ord.wpOp_of rfl rfl (Ord.wp_value (v := cv c5) (w' := x) (e_ldc' _ k2 rfl (HSDH.out.later hb).1) ?_)
      exact ⟨(Ord.size_put _ 67 _).trans g1, g2, (Ord.eval_put_other _ 67 1 _ (by decide)).trans k1, (Ord.eval_put_other _ 67 2 _ (by decide)).trans k2, (Ord.eval_put_other _ 67 4 _ (by decide)).trans k4, fun _ => Ord.eval_put_same _ _ _ (by rw [g1]; decide), fun h => (Ord.eval_put_other _ 67 68 _ (by decide)).trans (s1 (by simpa [Ord.upd] using h)), fun h => (Ord.eval_put_other _ 67 69 _ (by decide)).trans (s2 (by simpa [Ord.upd] using h)), (by
        rcases hx with ⟨h3, rfl⟩ | ⟨c', er, w2, hp, h3, e70, s4, s5, s7, hx⟩
        · exact .inl ⟨by simpa [Ord.upd] using h3, rfl⟩
        · exact .inr ⟨c', er, w2, hp, by simpa [Ord.upd] using h3, (Ord.eval_put_other _ 67 70 _ (by decide)).trans e70, fun h => (Ord.eval_put_other _ 67 71 _ (by decide)).trans (s4 (by simpa [Ord.upd] using h)), fun h => (Ord.eval_put_other _ 67 72 _ (by decide)).trans (s5 (by simpa [Ord.upd] using h)), fun h => (Ord.eval_put_other _ 67 5 _ (by decide)).trans (s7 (by simpa [Ord.upd] using h)), by simpa [Ord.upd] using hx⟩)⟩
    | 1, ho, hi =>
      cases ho
      refine Ord.wpOp_of rfl rfl (Ord.wp_value (w' := x) (o_mv _ rfl k1) ?_)
      exact ⟨(Ord.size_put _ 68 _).trans g1, g2, (Ord.eval_put_other _ 68 1 _ (by decide)).trans k1, (Ord.eval_put_other _ 68 2 _ (by decide)).trans k2, (Ord.eval_put_other _ 68 4 _ (by decide)).trans k4, fun h => (Ord.eval_put_other _ 68 67 _ (by decide)).trans (s0 (by simpa [Ord.upd] using h)), fun _ => Ord.eval_put_same _ _ _ (by rw [g1]; decide), fun h => (Ord.eval_put_other _ 68 69 _ (by decide)).trans (s2 (by simpa [Ord.upd] using h)), (by
        rcases hx with ⟨h3, rfl⟩ | ⟨c', er, w2, hp, h3, e70, s4, s5, s7, hx⟩
        · exact .inl ⟨by simpa [Ord.upd] using h3, rfl⟩
        · exact .inr ⟨c', er, w2, hp, by simpa [Ord.upd] using h3, (Ord.eval_put_other _ 68 70 _ (by decide)).trans e70, fun h => (Ord.eval_put_other _ 68 71 _ (by decide)).trans (s4 (by simpa [Ord.upd] using h)), fun h => (Ord.eval_put_other _ 68 72 _ (by decide)).trans (s5 (by simpa [Ord.upd] using h)), fun h => (Ord.eval_put_other _ 68 5 _ (by decide)).trans (s7 (by simpa [Ord.upd] using h)), by simpa [Ord.upd] using hx⟩)⟩
    | 2, ho, hi =>
      cases ho
      have da := s1 (hdep ⟨1, .data⟩ (by simp) rfl)
      refine Ord.wpOp_of rfl rfl (Ord.wp_value (v := .slice A4 (len - 16) (cap - 16)) (w' := x) (o_sl _ da rfl hA4 (by omega) (by omega)) ?_)
      exact ⟨(Ord.size_put _ 69 _).trans g1, g2, (Ord.eval_put_other _ 69 1 _ (by decide)).trans k1, (Ord.eval_put_other _ 69 2 _ (by decide)).trans k2, (Ord.eval_put_other _ 69 4 _ (by decide)).trans k4, fun h => (Ord.eval_put_other _ 69 67 _ (by decide)).trans (s0 (by simpa [Ord.upd] using h)), fun h => (Ord.eval_put_other _ 69 68 _ (by decide)).trans (s1 (by simpa [Ord.upd] using h)), fun _ => Ord.eval_put_same _ _ _ (by rw [g1]; decide), (by
        rcases hx with ⟨h3, rfl⟩ | ⟨c', er, w2, hp, h3, e70, s4, s5, s7, hx⟩
        · exact .inl ⟨by simpa [Ord.upd] using h3, rfl⟩
        · exact .inr ⟨c', er, w2, hp, by simpa [Ord.upd] using h3, (Ord.eval_put_other _ 69 70 _ (by decide)).trans e70, fun h => (Ord.eval_put_other _ 69 71 _ (by decide)).trans (s4 (by simpa [Ord.upd] using h)), fun h => (Ord.eval_put_other _ 69 72 _ (by decide)).trans (s5 (by simpa [Ord.upd] using h)), fun h => (Ord.eval_put_other _ 69 5 _ (by decide)).trans (s7 (by simpa [Ord.upd] using h)), by simpa [Ord.upd] using hx⟩)⟩
    | 3, ho, hi =>
      cases ho
      have da := s0 (hdep ⟨0, .data⟩ (by simp) rfl)
      have db := s2 (hdep ⟨2, .data⟩ (by simp) rfl)
      have hx0 : x = W5.drew := by
        rcases hx with ⟨_, h⟩ | ⟨_, _, _, _, h3, _⟩
        · exact h
        · rw [hi] at h3; cases h3
      have l4 : L 4 = false := by
        cases h : L 4 with
        | false => rfl
        | true => exact absurd (hcl 4 _ rfl h ⟨3, .data⟩ (by simp) rfl) (by rw [hi]; decide)
      have l5 : L 5 = false := by
        cases h : L 5 with
        | false => rfl
        | true => exact absurd (hcl 5 _ rfl h ⟨3, .data⟩ (by simp) rfl) (by rw [hi]; decide)
      have l6 : L 6 = false := by
        cases h : L 6 with
        | false => rfl
        | true => exact absurd (hcl 6 _ rfl h ⟨4, .data⟩ (by simp) rfl) (by rw [l4]; decide)
      have l7 : L 7 = false := by
        cases h : L 7 with
        | false => rfl
        | true => exact absurd (hcl 7 _ rfl h ⟨5, .data⟩ (by simp) rfl) (by rw [l5]; decide)
      subst hx0
      refine Ord.wpOp_of rfl rfl ?_
      unfold Oper.wp
      rw [o_par _ _ da db rfl]
      refine Calls.mono PA.out ?_
      rintro e w2 ⟨c', er, rfl, b2, l, q, cd, hO, h⟩
      exact ⟨(Ord.size_put _ 70 _).trans g1, g2, (Ord.eval_put_other _ 70 1 _ (by decide)).trans k1, (Ord.eval_put_other _ 70 2 _ (by decide)).trans k2, (Ord.eval_put_other _ 70 4 _ (by decide)).trans k4, fun h => (Ord.eval_put_other _ 70 67 _ (by decide)).trans (s0 (by simpa [Ord.upd] using h)), fun h => (Ord.eval_put_other _ 70 68 _ (by decide)).trans (s1 (by simpa [Ord.upd] using h)), fun h => (Ord.eval_put_other _ 70 69 _ (by decide)).trans (s2 (by simpa [Ord.upd] using h)), .inr ⟨c', er, w2, ⟨b2, l, q, cd, hO, h⟩, by simp [Ord.upd], Ord.eval_put_same _ _ _ (by rw [g1]; decide), fun h' => absurd h' (by simp [Ord.upd, l4]), fun h' => absurd h' (by simp [Ord.upd, l5]), fun h' => absurd h' (by simp [Ord.upd, l7]), by simp [Ord.upd, l6]⟩⟩
    | 4, ho, hi =>
      cases ho
      have l3 : L 3 = true := hdep ⟨3, .data⟩ (by simp) rfl
      obtain ⟨c', er, w2, hp, h3, e70, s4, s5, s7, hx⟩ := hx.resolve_left (fun h => by rw [l3] at h; cases h.1)
      refine Ord.wpOp_of rfl rfl (Ord.wp_value (v := cv c') (w' := x) (o_ex (n := 0) _ e70 rfl rfl) ?_)
      exact ⟨(Ord.size_put _ 71 _).trans g1, g2, (Ord.eval_put_other _ 71 1 _ (by decide)).trans k1, (Ord.eval_put_other _ 71 2 _ (by decide)).trans k2, (Ord.eval_put_other _ 71 4 _ (by decide)).trans k4, fun h => (Ord.eval_put_other _ 71 67 _ (by decide)).trans (s0 (by simpa [Ord.upd] using h)), fun h => (Ord.eval_put_other _ 71 68 _ (by decide)).trans (s1 (by simpa [Ord.upd] using h)), fun h => (Ord.eval_put_other _ 71 69 _ (by decide)).trans (s2 (by simpa [Ord.upd] using h)), .inr ⟨c', er, w2, hp, by simpa [Ord.upd] using h3, (Ord.eval_put_other _ 71 70 _ (by decide)).trans e70, fun _ => Ord.eval_put_same _ _ _ (by rw [g1]; decide), fun h => (Ord.eval_put_other _ 71 72 _ (by decide)).trans (s5 (by simpa [Ord.upd] using h)), fun h => (Ord.eval_put_other _ 71 5 _ (by decide)).trans (s7 (by simpa [Ord.upd] using h)), by simpa [Ord.upd] using hx⟩⟩
    | 5, ho, hi =>
      cases ho
      have l3 : L 3 = true := hdep ⟨3, .data⟩ (by simp) rfl
      obtain ⟨c', er, w2, hp, h3, e70, s4, s5, s7, hx⟩ := hx.resolve_left (fun h => by rw [l3] at h; cases h.1)
      refine Ord.wpOp_of rfl rfl (Ord.wp_value (v := .int .i64 er) (w' := x) (o_ex (n := 1) _ e70 rfl rfl) ?_)
      exact ⟨(Ord.size_put _ 72 _).trans g1, g2, (Ord.eval_put_other _ 72 1 _ (by decide)).trans k1, (Ord.eval_put_other _ 72 2 _ (by decide)).trans k2, (Ord.eval_put_other _ 72 4 _ (by decide)).trans k4, fun h => (Ord.eval_put_other _ 72 67 _ (by decide)).trans (s0 (by simpa [Ord.upd] using h)), fun h => (Ord.eval_put_other _ 72 68 _ (by decide)).trans (s1 (by simpa [Ord.upd] using h)), fun h => (Ord.eval_put_other _ 72 69 _ (by decide)).trans (s2 (by simpa [Ord.upd] using h)), .inr ⟨c', er, w2, hp, by simpa [Ord.upd] using h3, (Ord.eval_put_other _ 72 70 _ (by decide)).trans e70, fun h => (Ord.eval_put_other _ 72 71 _ (by decide)).trans (s4 (by simpa [Ord.upd] using h)), fun _ => Ord.eval_put_same _ _ _ (by rw [g1]; decide), fun h => (Ord.eval_put_other _ 72 5 _ (by decide)).trans (s7 (by simpa [Ord.upd] using h)), by simpa [Ord.upd] using hx⟩⟩
    | 6, ho, hi =>
      cases ho
      have l4 : L 4 = true := hdep ⟨4, .data⟩ (by simp) rfl
      have l3 : L 3 = true := hcl 4 _ rfl l4 ⟨3, .data⟩ (by simp) rfl
      obtain ⟨c', er, w2, hp, h3, e70, s4, s5, s7, hx⟩ := hx.resolve_left (fun h => by rw [l3] at h; cases h.1)
      have hx0 : x = w2 := by rw [hx, hi]; simp
      subst hx0
      refine Ord.wpOp_of rfl rfl ?_
      unfold Oper.wp
      rw [o_sto _ _ k4 (s4 l4) rfl (HSDH.out.sub hp.1 c').1]
      exact ⟨g1, g2, k1, k2, k4, fun h => s0 (by simpa [Ord.upd] using h), fun h => s1 (by simpa [Ord.upd] using h), fun h => s2 (by simpa [Ord.upd] using h), .inr ⟨c', er, x, hp, by simpa [Ord.upd] using h3, e70, fun h => s4 (by simpa [Ord.upd] using h), fun h => s5 (by simpa [Ord.upd] using h), fun h => s7 (by simpa [Ord.upd] using h), by simp [Ord.upd]⟩⟩
    | 7, ho, hi =>
      cases ho
      have l3 : L 3 = true := hcl 5 _ rfl (hdep ⟨5, .data⟩ (by simp) rfl) ⟨3, .data⟩ (by simp) rfl
      obtain ⟨c', er, w2, hp, h3, e70, s4, s5, s7, hx⟩ := hx.resolve_left (fun h => by rw [l3] at h; cases h.1)
      refine Ord.wpOp_of rfl rfl (Ord.wp_value (v := .int .i64 er) (w' := x) (o_as _ rfl (s5 (hdep ⟨5, .data⟩ (by simp) rfl))) ?_)
      exact ⟨(Ord.size_put _ 5 _).trans g1, g2, (Ord.eval_put_other _ 5 1 _ (by decide)).trans k1, (Ord.eval_put_other _ 5 2 _ (by decide)).trans k2, (Ord.eval_put_other _ 5 4 _ (by decide)).trans k4, fun h => (Ord.eval_put_other _ 5 67 _ (by decide)).trans (s0 (by simpa [Ord.upd] using h)), fun h => (Ord.eval_put_other _ 5 68 _ (by decide)).trans (s1 (by simpa [Ord.upd] using h)), fun h => (Ord.eval_put_other _ 5 69 _ (by decide)).trans (s2 (by simpa [Ord.upd] using h)), .inr ⟨c', er, w2, hp, by simpa [Ord.upd] using h3, (Ord.eval_put_other _ 5 70 _ (by decide)).trans e70, fun h => (Ord.eval_put_other _ 5 71 _ (by decide)).trans (s4 (by simpa [Ord.upd] using h)), fun h => (Ord.eval_put_other _ 5 72 _ (by decide)).trans (s5 (by simpa [Ord.upd] using h)), fun _ => Ord.eval_put_same _ _ _ (by rw [g1]; decide), by simpa [Ord.upd] using hx⟩⟩
  case refine_2 =>
    intro L L' ac x hL ⟨g1, g2, k1, k2, k4, s0, s1, s2, hx⟩
    rw [hL 0 (by decide)] at s0
    rw [hL 1 (by decide)] at s1
    rw [hL 2 (by decide)] at s2
    rw [hL 3 (by decide), hL 4 (by decide), hL 5 (by decide), hL 6 (by decide), hL 7 (by decide)] at hx
    exact ⟨g1, g2, k1, k2, k4, s0, s1, s2, hx⟩
  case refine_3 =>
    intro ac x ⟨g1, g2, k1, k2, k4, s0, s1, s2, hx⟩
    obtain ⟨c', er, w2, hp, e3, e70, e4, e5, s7, rfl⟩ := hx.resolve_left (fun h => by cases h.1)
    have s7' := s7 rfl
    obtain ⟨t1, t2, t3, t4⟩ := HSDH.out.sub hp.1 c'
    rw [if_pos rfl]
    rename_i hKK
    refine hKK _ _ (wp_ret ?_)
    have h4 : ac.tmps.getD 4 undef = .pointer (some ⟨w.heap.size + 1, 0, none⟩) := k4
    have h5 : ac.tmps.getD 5 undef = .int .i64 er := s7'
    refine (show bodyPost Try.prog Try.f17 (fun e w' => RdR w v 2 (zch 2 0) e w') .ret ac _ from bodyPost_ret (v := .tuple #[cv c', .int .i64 er]) (cell_res2 Try.results17 t2 _ h4 h5) g2 ?_)
    obtain ⟨_, l, q, cd, hO, h⟩ := hp
    rcases h with ⟨h1, rfl⟩ | ⟨h1, h2, h3, rfl⟩ | ⟨h1, h2, rfl, h4', h5'⟩
    · exact RdR.of (W1 := W5.drew) (w2 := w2) (y := val c') (HFil.out l q _ _ _ (by omega) hO (.inl ⟨h1, rfl⟩)) (fun e => absurd e h1) t4 t3
    · rw [HK5.out] at h2
      exact absurd h2 (by decide)
    · exact RdR.of (W1 := W5.drew) (w2 := w2) (HFil.out l q _ _ _ (by omega) hO (.inr ⟨h1, rfl, rfl⟩)) (fun _ => ⟨by rw [h4', HC5.out], h5'⟩) t4 t3
  case refine_4 => exact ⟨rfl, rfl, rfl, rfl, rfl, (fun h => by cases h), (fun h => by cases h), (fun h => by cases h), .inl ⟨rfl, rfl⟩⟩
end Go.Proofs.Ytifdkpifambhaab.Chu
