/-
  The document's writer: gaps.
  Conditions: the numbers lie within their kinds, the cells hold them.
-/
import Derived.Test.YtifdkpifambhaaaChEa
namespace Go.Proofs.Ytifdkpifambhaaa.Chu
open Go.ChangeShapes Go.WideShapes Go.ChangeAt Go.RowKit
open Par (hidden Bytes Row Prm Prms cell_lt Cap cells_new cutA thrown form_of)
set_option linter.unusedVariables false
attribute [local go_sem ↓] execOp_ld execOp_bx execOp_st

section
variable {a : Act} {o : Oper} {w : World}
theorem o_as {v : Value} (x : Operand) (ho : o.op = .assign x) (hx : a.eval x = v) : (execOp a.eval o).run Try.prog w = .ok (.value v) w := by
  unfold execOp
  rw [ho]
  simp only [hx]
  rfl
theorem o_put {u0 u1 : Value} {m : Int} (x y : Operand) (h0 : a.eval x = u0) (h1 : a.eval y = u1) (ho : o.op = .call { callee := .value (.func 26), args := #[x, y, .const (.int .i64 m)], argTypes := #[23, 31, 3] }) : (execOp a.eval o).run Try.prog w = .ok (.enter 26 #[u0, u1, .int .i64 m]) w := by
  unfold execOp
  rw [ho]
  go_simp
  exact ⟨by cases x <;> simpa [Act.eval] using h0, by cases y <;> simpa [Act.eval] using h1⟩
theorem o_ia {b off n cap k : Nat} (x y : Operand) (h0 : a.eval x = .slice (some ⟨b, off, none⟩) n cap) (h1 : a.eval y = .int .i64 (k : Int)) (hk : k < n) (ho : o.op = .indexAddr 33 x y) : (execOp a.eval o).run Try.prog w = .ok (.value (.pointer (some ⟨b, off + k * 2, none⟩))) w := by
  unfold execOp
  rw [ho]
  simp only [h0, h1]
  have h2 : (k : Int) < (n : Int) := by omega
  go_simp
theorem o_g0 {b off : Nat} (x : Operand) (h0 : a.eval x = .pointer (some ⟨b, off, none⟩)) (ho : o.op = .fieldAddr 69 x 0) : (execOp a.eval o).run Try.prog w = .ok (.value (.pointer (some ⟨b, off, none⟩))) w := by
  unfold execOp
  rw [ho]
  simp only [h0]
  go_simp
theorem o_g1 {b off : Nat} (x : Operand) (h0 : a.eval x = .pointer (some ⟨b, off, none⟩)) (ho : o.op = .fieldAddr 69 x 1) : (execOp a.eval o).run Try.prog w = .ok (.value (.pointer (some ⟨b, off + 1, none⟩))) w := by
  unfold execOp
  rw [ho]
  simp only [h0]
  go_simp
theorem o_cv {v : Int} (x : Operand) (h0 : a.eval x = .int .u16 v) (hv : 0 ≤ v ∧ v < 65536) (ho : o.op = .convert 32 31 x) : (execOp a.eval o).run Try.prog w = .ok (.value (.int .u32 v)) w := by
  unfold execOp
  rw [ho]
  simp only [h0]
  have hw : ∀ z : Int, IntKind.u32.wrap z = z % 4294967296 := fun _ => rfl
  have h2 : v % 4294967296 = v := by omega
  go_simp
end
set_option maxRecDepth 20000 in
theorem rGaps (w0 w : World) (base : Nat) (v : Value) (xs : List Int) (h : Bd w0 w v xs) (hx : xs.length ≤ 100000) (a : Option Addr) (n cap : Nat) (gs : List (Int × Int)) (hg : Gaps base w0 a n gs) (hn : n ≤ 4096) :
    Calls Try.prog 49 #[v, .slice a n cap] w fun e w' => ∃ v', e = .returned v' ∧ Bd w0 w' v' (xs ++ gbytes gs) := by
  have HG := hidden hg
  have HH := hidden h
  have hgl := hg.1
  clear h hg
  go_enter Try.func49, Try.ntmps49
  go_wp2_with fail
  go_loopw [0, 5] (fun v i wr => ∃ k : Nat, k ≤ n ∧ i = .int .i64 k ∧ Bd w0 wr v (xs ++ gbytes (gs.take k))) (fun _ i _ => n - (intOf i).toNat)
  case atStart => exact ⟨0, Nat.zero_le _, rfl, by simpa [gbytes] using HH.out⟩
  case round =>
    obtain ⟨k, hk, rfl, hb⟩ := hrel
    obtain ⟨va, vc, rfl⟩ := hb.form
    generalize (xs ++ gbytes (gs.take k)).length = m at *
    rcases Nat.lt_or_ge k n with hlt | hge
    · obtain ⟨b, off, g1, g2, rfl, hgk, hc1, hc2, hb1, hb2⟩ := HG.out.get hlt
      have HLEN := hidden (show (xs ++ gbytes (gs.take k)).length = xs.length + 4 * k by rw [List.length_append, gbytes_len, List.length_take, hgl, Nat.min_eq_left hk])
      have HSN := hidden (gbytes_snoc hgk)
      have HC1 := hidden (show ∀ y, Below w0.heap.size w0 y → y.cell? ⟨b, off + k * 2, none⟩ = some (.int .u16 g1) from fun y hy => (hy.cell (cell_lt hc1)).trans hc1)
      have HC2 := hidden (show ∀ y, Below w0.heap.size w0 y → y.cell? ⟨b, off + k * 2 + 1, none⟩ = some (.int .u16 g2) from fun y hy => (hy.cell (cell_lt hc2)).trans hc2)
      have HB := hidden hb
      clear hc1 hc2 hgk hb
      have hlt2 : (k : Int) < (n : Int) := by omega
      go_wp2_with fail
      refine Ord.wp_region_ex (X := Value × Value) (by kernel_rfl) 28 (fun x => [(some 12, .slice va m vc), (some 13, .slice (some ⟨b, off, none⟩) n cap), (some 14, .int .i64 (k : Int)), (some 15, .pointer (some ⟨b, off + k * 2, none⟩)), (some 16, .pointer (some ⟨b, off + k * 2, none⟩)), (some 17, .int .u16 g1), (some 18, .int .u32 g1), (some 19, x.1), (some 20, .slice (some ⟨b, off, none⟩) n cap), (some 21, .int .i64 (k : Int)), (some 22, .pointer (some ⟨b, off + k * 2, none⟩)), (some 23, .pointer (some ⟨b, off + k * 2 + 1, none⟩)), (some 24, .int .u16 g2), (some 25, .int .u32 g2), (some 26, x.2), (some 0, x.2)]) [some 12, some 13, some 14, some 15, some 16, some 17, some 18, some 19, some 20, some 21, some 22, some 23, some 24, some 25, some 26, some 0] rfl (by kernel_rfl) (by rfl) (fun _ => rfl) (by kernel_rfl) (Ord.St 7 14 (fun y => Bd w0 y (.slice va m vc) (xs ++ gbytes (gs.take k))) (fun u y => Bd w0 y u (xs ++ gbytes (gs.take k) ++ twos [g1])) (fun u y => Bd w0 y u (xs ++ gbytes (gs.take k) ++ twos [g1] ++ twos [g2]))) (fun _ _ _ _ hL h => h.ext (n := 16) (by decide) (by decide) hL) ?_ ?_ (undef, undef) ?_
      case refine_1 =>
        intro x L i o ac w' ho hi hcl hdep hF hW
        have hK := hW.all (·.2) (fun _ h => h.2) (fun _ h => h.2)
        have f1' : ac.tmps.size = 28 := hF.1
        match i, ho, hi, hdep with
        | 0, ho, hi, hdep =>
          cases ho
          have hy : L 15 = false := by
            cases hb : L 15 with
            | false => rfl
            | true =>
              have h14 := hcl 15 _ rfl hb ⟨14, .data⟩ (by simp) rfl
              have h7 := hcl 14 _ rfl h14 ⟨7, .data⟩ (by simp) rfl
              have h0 := hcl 7 _ rfl h7 ⟨0, .data⟩ (by simp) rfl
              rw [hi] at h0; cases h0
          have da0 : ac.eval (.tmp 0) = .slice va m vc := hF.yet 0 15 (by rfl) hy
          exact Ord.ex_value x rfl rfl (o_mv _ rfl da0) rfl (hW.keep (by decide) (by decide))
        | 1, ho, hi, hdep =>
          cases ho
          have da0 : ac.eval (.tmp 1) = .slice (some ⟨b, off, none⟩) n cap := hF.old 1 rfl
          exact Ord.ex_value x rfl rfl (o_mv _ rfl da0) rfl (hW.keep (by decide) (by decide))
        | 2, ho, hi, hdep =>
          cases ho
          have da0 : ac.eval (.tmp 5) = .int .i64 (k : Int) := hF.old 5 rfl
          exact Ord.ex_value x rfl rfl (o_mv _ rfl da0) rfl (hW.keep (by decide) (by decide))
        | 3, ho, hi, hdep =>
          cases ho
          have da0 : ac.eval (.tmp 13) = .slice (some ⟨b, off, none⟩) n cap := hF.2.2.2 1 13 _ rfl (hdep ⟨1, .data⟩ (by simp) rfl)
          have da1 : ac.eval (.tmp 14) = .int .i64 (k : Int) := hF.2.2.2 2 14 _ rfl (hdep ⟨2, .data⟩ (by simp) rfl)
          exact Ord.ex_value x rfl rfl (o_ia _ _ da0 da1 hlt rfl) rfl (hW.keep (by decide) (by decide))
        | 4, ho, hi, hdep =>
          cases ho
          have da0 : ac.eval (.tmp 15) = .pointer (some ⟨b, off + k * 2, none⟩) := hF.2.2.2 3 15 _ rfl (hdep ⟨3, .data⟩ (by simp) rfl)
          exact Ord.ex_value x rfl rfl (o_g0 _ da0 rfl) rfl (hW.keep (by decide) (by decide))
        | 5, ho, hi, hdep =>
          cases ho
          have da0 : ac.eval (.tmp 16) = .pointer (some ⟨b, off + k * 2, none⟩) := hF.2.2.2 4 16 _ rfl (hdep ⟨4, .data⟩ (by simp) rfl)
          exact Ord.ex_value x rfl rfl (e_ld _ da0 rfl (ld16 _ _ _ (HC1.out _ hK))) rfl (hW.keep (by decide) (by decide))
        | 6, ho, hi, hdep =>
          cases ho
          have da0 : ac.eval (.tmp 17) = .int .u16 g1 := hF.2.2.2 5 17 _ rfl (hdep ⟨5, .data⟩ (by simp) rfl)
          exact Ord.ex_value x rfl rfl (o_cv _ da0 ⟨by omega, by omega⟩ rfl) rfl (hW.keep (by decide) (by decide))
        | 7, ho, hi, hdep =>
          cases ho
          have da0 : ac.eval (.tmp 12) = .slice va m vc := hF.2.2.2 0 12 _ rfl (hdep ⟨0, .data⟩ (by simp) rfl)
          have da1 : ac.eval (.tmp 18) = .int .u32 g1 := hF.2.2.2 6 18 _ rfl (hdep ⟨6, .data⟩ (by simp) rfl)
          refine Ord.ex_call x (fun v => (v, x.2)) rfl rfl (o_put _ _ da0 da1 rfl) (fun _ => rfl) (fun v j hj => match j, hj with | 0, _ => rfl | 1, _ => rfl | 2, _ => rfl | 3, _ => rfl | 4, _ => rfl | 5, _ => rfl | 6, _ => rfl | 7, hj => absurd hj (by rw [hi]; decide) | 8, _ => rfl | 9, _ => rfl | 10, _ => rfl | 11, _ => rfl | 12, _ => rfl | 13, _ => rfl | 14, _ => rfl | 15, _ => rfl | _ + 16, _ => rfl) (Calls.mono (rPut2 w0 w' _ (xs ++ gbytes (gs.take k)) (hW.1 hi) (by rw [HLEN.out]; omega) g1 (by omega) (by omega)) ?_)
          rintro e w1 ⟨v', rfl, hB⟩
          exact ⟨_, rfl, hW.one (by decide) hi (hB)⟩
        | 8, ho, hi, hdep =>
          cases ho
          have da0 : ac.eval (.tmp 1) = .slice (some ⟨b, off, none⟩) n cap := hF.old 1 rfl
          exact Ord.ex_value x rfl rfl (o_mv _ rfl da0) rfl (hW.keep (by decide) (by decide))
        | 9, ho, hi, hdep =>
          cases ho
          have da0 : ac.eval (.tmp 5) = .int .i64 (k : Int) := hF.old 5 rfl
          exact Ord.ex_value x rfl rfl (o_mv _ rfl da0) rfl (hW.keep (by decide) (by decide))
        | 10, ho, hi, hdep =>
          cases ho
          have da0 : ac.eval (.tmp 20) = .slice (some ⟨b, off, none⟩) n cap := hF.2.2.2 8 20 _ rfl (hdep ⟨8, .data⟩ (by simp) rfl)
          have da1 : ac.eval (.tmp 21) = .int .i64 (k : Int) := hF.2.2.2 9 21 _ rfl (hdep ⟨9, .data⟩ (by simp) rfl)
          exact Ord.ex_value x rfl rfl (o_ia _ _ da0 da1 hlt rfl) rfl (hW.keep (by decide) (by decide))
        | 11, ho, hi, hdep =>
          cases ho
          have da0 : ac.eval (.tmp 22) = .pointer (some ⟨b, off + k * 2, none⟩) := hF.2.2.2 10 22 _ rfl (hdep ⟨10, .data⟩ (by simp) rfl)
          exact Ord.ex_value x rfl rfl (o_g1 _ da0 rfl) rfl (hW.keep (by decide) (by decide))
        | 12, ho, hi, hdep =>
          cases ho
          have da0 : ac.eval (.tmp 23) = .pointer (some ⟨b, off + k * 2 + 1, none⟩) := hF.2.2.2 11 23 _ rfl (hdep ⟨11, .data⟩ (by simp) rfl)
          exact Ord.ex_value x rfl rfl (e_ld _ da0 rfl (ld16 _ _ _ (HC2.out _ hK))) rfl (hW.keep (by decide) (by decide))
        | 13, ho, hi, hdep =>
          cases ho
          have da0 : ac.eval (.tmp 24) = .int .u16 g2 := hF.2.2.2 12 24 _ rfl (hdep ⟨12, .data⟩ (by simp) rfl)
          exact Ord.ex_value x rfl rfl (o_cv _ da0 ⟨by omega, by omega⟩ rfl) rfl (hW.keep (by decide) (by decide))
        | 14, ho, hi, hdep =>
          cases ho
          have da0 : ac.eval (.tmp 19) = x.1 := hF.2.2.2 7 19 _ rfl (hdep ⟨7, .data⟩ (by simp) rfl)
          have da1 : ac.eval (.tmp 25) = .int .u32 g2 := hF.2.2.2 13 25 _ rfl (hdep ⟨13, .data⟩ (by simp) rfl)
          refine Ord.ex_call x (fun v => (x.1, v)) rfl rfl (o_put _ _ da0 da1 rfl) (fun _ => rfl) (fun v j hj => match j, hj with | 0, _ => rfl | 1, _ => rfl | 2, _ => rfl | 3, _ => rfl | 4, _ => rfl | 5, _ => rfl | 6, _ => rfl | 7, _ => rfl | 8, _ => rfl | 9, _ => rfl | 10, _ => rfl | 11, _ => rfl | 12, _ => rfl | 13, _ => rfl | 14, hj => absurd hj (by rw [hi]; decide) | 15, hj => absurd (hcl 15 _ rfl hj ⟨14, .data⟩ (by simp) rfl) (by rw [hi]; decide) | _ + 16, _ => rfl) (Calls.mono (rPut2 w0 w' _ (xs ++ gbytes (gs.take k) ++ twos [g1]) (hW.2.1 (hdep ⟨7, .data⟩ (by simp) rfl) hi) (by rw [List.length_append, HLEN.out, twos_len]; simp; omega) g2 (by omega) (by omega)) ?_)
          rintro e w1 ⟨v', rfl, hB⟩
          exact ⟨_, rfl, Ord.St.two (hdep ⟨7, .data⟩ (by simp) rfl) (hB)⟩
        | 15, ho, hi, hdep =>
          cases ho
          have da0 : ac.eval (.tmp 26) = x.2 := hF.2.2.2 14 26 _ rfl (hdep ⟨14, .data⟩ (by simp) rfl)
          exact Ord.ex_value x rfl rfl (o_as _ rfl da0) rfl (hW.keep (by decide) (by decide))
      case refine_2 =>
        intro x w1 hS
        have HB1 := hidden (hS.2.2.1 rfl)
        clear hS
        simp only [Ord.puts, Ord.prs, List.filterMap_cons, List.filterMap_nil, Option.map_some, List.foldl_cons, List.foldl_nil]
        go_simp
        go_wp2
        go_roundw
        case rel => exact ⟨k + 1, by omega, by go_num, HB1.out.eqn (by rw [HSN.out]; simp [twos])⟩
        case measure => simp [intOf]; omega
      case refine_3 =>
        exact ⟨fun _ => ⟨HB.out.1, Par.below_drewN HB.out.2 1⟩, fun e => Bool.noConfusion e, fun e => Bool.noConfusion e, fun e => Bool.noConfusion e⟩
    · obtain rfl : n = k := by omega
      have HF := hidden (show gs.take n = gs from List.take_of_length_le (by omega))
      have HB := hidden hb
      clear hb
      go_wp2
      go_ret
      exact ⟨_, rfl, HB.out.eqn (by rw [HF.out])⟩
end Go.Proofs.Ytifdkpifambhaaa.Chu
