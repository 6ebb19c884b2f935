/-
  The document's writer: a row that grows, numbers of two and of four bytes. The document's writer: gaps. The document's writer: a chunk's value.
  Conditions: as at each lemma.
-/
import Derived.Test.YtmnndkhdekpecaaGreatDoorChRb
import Derived.Test.YtmnndkhdekpecaaGreatDoorParE
import Derived.Test.YtmnndkhdekpecaaGreatDoorOr
namespace Go.Proofs.YtmnndkhdekpecaaGreatDoor.Chu
open Go.ChangeShapes Go.WideShapes Go.ChangeAt Go.RowKit
open Par (hidden Bytes Row Prm Prms cell_lt Cap cells_new cutA thrown form_of)
set_option linter.unusedVariables false
attribute [local go_sem ↓] execOp_ld execOp_bx execOp_st

/-- a row of bytes made behind a world -/
def Bd (w0 w : World) (v : Value) (xs : List Int) : Prop := w.ownsRow w0.heap.size 5 1 v xs.length (Par.cs xs) ∧ Below w0.heap.size w0 w
theorem Bd.nil (w : World) : Bd w w (.slice none 0 0) [] := ⟨World.ownsRow_nil _ _ _ _, Below.refl _ _⟩
theorem Bd.later {w0 w w' : World} {v : Value} {xs : List Int} (h : Bd w0 w v xs) (hb : Below w.heap.size w w') : Bd w0 w' v xs := ⟨Par.own_later h.1 hb, h.2.trans (hb.mono h.2.size)⟩
theorem Bd.form {w0 w : World} {v : Value} {xs : List Int} (h : Bd w0 w v xs) : ∃ a cap, v = .slice a xs.length cap := Par.own_form h.1
theorem Bd.eqn {w0 w : World} {v : Value} {xs ys : List Int} (h : Bd w0 w v xs) (e : xs = ys) : Bd w0 w v ys := by rw [← e]; exact h
/-- bytes are put at its end -/
theorem Bd.put {w0 w w' : World} {v' : Value} {a : Option Addr} {n cap : Nat} {xs : List Int} {o : Obj} {y : Int} (h : Bd w0 w (.slice a n cap) xs) (hn : xs.length = n) (ho : w'.ownsRow w0.heap.size 5 1 v' (n + 1) (Par.cs xs ++ [.int .u8 y]))
    (hg : (w.alloc o).grownBy w' (Value.slice a n cap).ownBlock) : Bd w0 w' v' (xs ++ [y]) := by
  refine ⟨?_, (h.2.alloc h.2.size o).grown hg (by have := h.2.size; simp; omega) (fun j hj => (h.1.lt j hj).1)⟩
  rw [List.length_append, hn, Par.cs_append]
  exact ho
/-- a row is put at its end -/
theorem Bd.app {w0 w w' : World} {v' : Value} {a : Option Addr} {n m cap : Nat} {xs ys : List Int} (h : Bd w0 w (.slice a n cap) xs) (hn : xs.length = n) (hm : ys.length = m) (ho : w'.ownsRow w0.heap.size 5 1 v' (n + m) (Par.cs xs ++ Par.cs ys))
    (hg : w.grownBy w' (Value.slice a n cap).ownBlock) : Bd w0 w' v' (xs ++ ys) := by
  refine ⟨?_, h.2.grown hg h.2.size (fun j hj => (h.1.lt j hj).1)⟩
  rw [List.length_append, hn, hm, Par.cs_append]
  exact ho
theorem Bd.own {w0 w : World} {a : Option Addr} {n cap : Nat} {xs : List Int} (h : Bd w0 w (.slice a n cap) xs) (hn : xs.length = n) : w.ownsRow w0.heap.size 5 1 (.slice a n cap) n (Par.cs xs) := by rw [← hn] at h ⊢; exact h.1
set_option maxRecDepth 20000 in
theorem rPut4 (w0 w : World) (v : Value) (xs : List Int) (h : Bd w0 w v xs) (hx : xs.length ≤ 1000000) (x : Int) (h0 : 0 ≤ x) (h1 : x < 4294967296) :
    Calls Tryz.prog 54 #[v, .int .u32 x, .int .i64 4] w fun e w' => ∃ v', e = .returned v' ∧ Bd w0 w' v' (xs ++ fours [x]) := by
  obtain ⟨i0, hi, hz0, hz1, hz2⟩ := info_parts Par.info5
  have HH := hidden h
  clear h
  go_enter Tryz.func54, Tryz.ntmps54
  go_wp2_with fail
  go_loopw [0, 7] (fun v i wr => ∃ j : Nat, j ≤ 4 ∧ i = .int .i64 (3 - (j : Int)) ∧ Bd w0 wr v (xs ++ (fours [x]).take j)) (fun _ i _ => (intOf i + 1).toNat)
  case atStart => exact ⟨0, by omega, rfl, by simpa using HH.out⟩
  case round =>
    obtain ⟨j, hj, rfl, hb⟩ := hrel
    obtain ⟨va, vc, rfl⟩ := hb.form
    have hlen : (xs ++ (fours [x]).take j).length = xs.length + j := by rw [List.length_append, List.length_take, fours_len]; simp; omega
    have hs := hb.2.size
    generalize hY : xs ++ (fours [x]).take j = Y at *
    generalize hm : Y.length = m at *
    have HY := hidden hY
    have HM := hidden hm
    have HB := hidden hb
    have hml : m ≤ 1000004 := by omega
    clear hb hY hm hlen
    have hw : ∀ z : Int, IntKind.u8.wrap z = z % 256 := fun _ => rfl
    rcases Nat.lt_or_ge j 4 with hlt | hge
    · obtain rfl | rfl | rfl | rfl : j = 0 ∨ j = 1 ∨ j = 2 ∨ j = 3 := by omega
      · have hyx : x / 16777216 % 256 = x / 16777216 % 256 := by omega
        have HS := hidden (show (fours [x]).take 1 = (fours [x]).take 0 ++ [x / 16777216 % 256] by simp [fours]; try omega)
        go_wp2_with (at_builtin; refine wpList_append_own _ rfl _ _ 27 rfl w0.heap.size 5 i0 (.int .u8 0) 1 1 Tryz.underlying27 hi hz0 hz1 hz2 rfl (by decide) _ _ _ rfl ((HB.out.own HM.out).alloc _) ⟨wr.heap.size, 0, none⟩ 1 1 [.int .u8 (x / 16777216 % 256)] rfl rfl (cell_one_new _ _ _) (by simp [Value.oneCell']) ?c3 ?c4 (by simp; omega) ?_)
        case c3 => unfold maxLen; omega
        case c4 => omega
        intro v' w2 ho2 hg2 _
        have HB2 := hidden (HB.out.put HM.out ho2 hg2)
        clear ho2 hg2
        go_wp2
        go_roundw
        case rel => exact ⟨1, by omega, by rfl, HB2.out.eqn (by rw [← HY.out, HS.out, List.append_assoc])⟩
        case measure => simp [intOf]
      · have hyx : x / 65536 % 256 = x / 65536 % 256 := by omega
        have HS := hidden (show (fours [x]).take 2 = (fours [x]).take 1 ++ [x / 65536 % 256] by simp [fours]; try omega)
        go_wp2_with (at_builtin; refine wpList_append_own _ rfl _ _ 27 rfl w0.heap.size 5 i0 (.int .u8 0) 1 1 Tryz.underlying27 hi hz0 hz1 hz2 rfl (by decide) _ _ _ rfl ((HB.out.own HM.out).alloc _) ⟨wr.heap.size, 0, none⟩ 1 1 [.int .u8 (x / 65536 % 256)] rfl rfl (cell_one_new _ _ _) (by simp [Value.oneCell']) ?c3 ?c4 (by simp; omega) ?_)
        case c3 => unfold maxLen; omega
        case c4 => omega
        intro v' w2 ho2 hg2 _
        have HB2 := hidden (HB.out.put HM.out ho2 hg2)
        clear ho2 hg2
        go_wp2
        go_roundw
        case rel => exact ⟨2, by omega, by rfl, HB2.out.eqn (by rw [← HY.out, HS.out, List.append_assoc])⟩
        case measure => simp [intOf]
      · have hyx : x / 256 % 256 = x / 256 % 256 := by omega
        have HS := hidden (show (fours [x]).take 3 = (fours [x]).take 2 ++ [x / 256 % 256] by simp [fours]; try omega)
        go_wp2_with (at_builtin; refine wpList_append_own _ rfl _ _ 27 rfl w0.heap.size 5 i0 (.int .u8 0) 1 1 Tryz.underlying27 hi hz0 hz1 hz2 rfl (by decide) _ _ _ rfl ((HB.out.own HM.out).alloc _) ⟨wr.heap.size, 0, none⟩ 1 1 [.int .u8 (x / 256 % 256)] rfl rfl (cell_one_new _ _ _) (by simp [Value.oneCell']) ?c3 ?c4 (by simp; omega) ?_)
        case c3 => unfold maxLen; omega
        case c4 => omega
        intro v' w2 ho2 hg2 _
        have HB2 := hidden (HB.out.put HM.out ho2 hg2)
        clear ho2 hg2
        go_wp2
        go_roundw
        case rel => exact ⟨3, by omega, by rfl, HB2.out.eqn (by rw [← HY.out, HS.out, List.append_assoc])⟩
        case measure => simp [intOf]
      · have hyx : x % 256 = x % 256 := by omega
        have HS := hidden (show (fours [x]).take 4 = (fours [x]).take 3 ++ [x % 256] by simp [fours]; try omega)
        go_wp2_with (at_builtin; refine wpList_append_own _ rfl _ _ 27 rfl w0.heap.size 5 i0 (.int .u8 0) 1 1 Tryz.underlying27 hi hz0 hz1 hz2 rfl (by decide) _ _ _ rfl ((HB.out.own HM.out).alloc _) ⟨wr.heap.size, 0, none⟩ 1 1 [.int .u8 (x % 256)] rfl rfl (cell_one_new _ _ _) (by simp [Value.oneCell']) ?c3 ?c4 (by simp; omega) ?_)
        case c3 => unfold maxLen; omega
        case c4 => omega
        intro v' w2 ho2 hg2 _
        have HB2 := hidden (HB.out.put HM.out ho2 hg2)
        clear ho2 hg2
        go_wp2
        go_roundw
        case rel => exact ⟨4, by omega, by rfl, HB2.out.eqn (by rw [← HY.out, HS.out, List.append_assoc])⟩
        case measure => simp [intOf]
    · obtain rfl : 4 = j := by omega
      have HF := hidden (show (fours [x]).take 4 = fours [x] from List.take_of_length_le (by rw [fours_len]; simp))
      go_wp2
      go_ret
      exact ⟨_, rfl, HB.out.eqn (by rw [← HY.out, HF.out])⟩
set_option maxRecDepth 20000 in
theorem rPut2 (w0 w : World) (v : Value) (xs : List Int) (h : Bd w0 w v xs) (hx : xs.length ≤ 1000000) (x : Int) (h0 : 0 ≤ x) (h1 : x < 65536) :
    Calls Tryz.prog 54 #[v, .int .u32 x, .int .i64 2] w fun e w' => ∃ v', e = .returned v' ∧ Bd w0 w' v' (xs ++ twos [x]) := by
  obtain ⟨i0, hi, hz0, hz1, hz2⟩ := info_parts Par.info5
  have HH := hidden h
  clear h
  go_enter Tryz.func54, Tryz.ntmps54
  go_wp2_with fail
  go_loopw [0, 7] (fun v i wr => ∃ j : Nat, j ≤ 2 ∧ i = .int .i64 (1 - (j : Int)) ∧ Bd w0 wr v (xs ++ (twos [x]).take j)) (fun _ i _ => (intOf i + 1).toNat)
  case atStart => exact ⟨0, by omega, rfl, by simpa using HH.out⟩
  case round =>
    obtain ⟨j, hj, rfl, hb⟩ := hrel
    obtain ⟨va, vc, rfl⟩ := hb.form
    have hlen : (xs ++ (twos [x]).take j).length = xs.length + j := by rw [List.length_append, List.length_take, twos_len]; simp; omega
    have hs := hb.2.size
    generalize hY : xs ++ (twos [x]).take j = Y at *
    generalize hm : Y.length = m at *
    have HY := hidden hY
    have HM := hidden hm
    have HB := hidden hb
    have hml : m ≤ 1000004 := by omega
    clear hb hY hm hlen
    have hw : ∀ z : Int, IntKind.u8.wrap z = z % 256 := fun _ => rfl
    rcases Nat.lt_or_ge j 2 with hlt | hge
    · obtain rfl | rfl : j = 0 ∨ j = 1 := by omega
      · have hyx : x / 256 % 256 = x / 256 % 256 := by omega
        have HS := hidden (show (twos [x]).take 1 = (twos [x]).take 0 ++ [x / 256 % 256] by simp [twos]; try omega)
        go_wp2_with (at_builtin; refine wpList_append_own _ rfl _ _ 27 rfl w0.heap.size 5 i0 (.int .u8 0) 1 1 Tryz.underlying27 hi hz0 hz1 hz2 rfl (by decide) _ _ _ rfl ((HB.out.own HM.out).alloc _) ⟨wr.heap.size, 0, none⟩ 1 1 [.int .u8 (x / 256 % 256)] rfl rfl (cell_one_new _ _ _) (by simp [Value.oneCell']) ?c3 ?c4 (by simp; omega) ?_)
        case c3 => unfold maxLen; omega
        case c4 => omega
        intro v' w2 ho2 hg2 _
        have HB2 := hidden (HB.out.put HM.out ho2 hg2)
        clear ho2 hg2
        go_wp2
        go_roundw
        case rel => exact ⟨1, by omega, by rfl, HB2.out.eqn (by rw [← HY.out, HS.out, List.append_assoc])⟩
        case measure => simp [intOf]
      · have hyx : x % 256 = x % 256 := by omega
        have HS := hidden (show (twos [x]).take 2 = (twos [x]).take 1 ++ [x % 256] by simp [twos]; try omega)
        go_wp2_with (at_builtin; refine wpList_append_own _ rfl _ _ 27 rfl w0.heap.size 5 i0 (.int .u8 0) 1 1 Tryz.underlying27 hi hz0 hz1 hz2 rfl (by decide) _ _ _ rfl ((HB.out.own HM.out).alloc _) ⟨wr.heap.size, 0, none⟩ 1 1 [.int .u8 (x % 256)] rfl rfl (cell_one_new _ _ _) (by simp [Value.oneCell']) ?c3 ?c4 (by simp; omega) ?_)
        case c3 => unfold maxLen; omega
        case c4 => omega
        intro v' w2 ho2 hg2 _
        have HB2 := hidden (HB.out.put HM.out ho2 hg2)
        clear ho2 hg2
        go_wp2
        go_roundw
        case rel => exact ⟨2, by omega, by rfl, HB2.out.eqn (by rw [← HY.out, HS.out, List.append_assoc])⟩
        case measure => simp [intOf]
    · obtain rfl : 2 = j := by omega
      have HF := hidden (show (twos [x]).take 2 = twos [x] from List.take_of_length_le (by rw [twos_len]; simp))
      go_wp2
      go_ret
      exact ⟨_, rfl, HB.out.eqn (by rw [← HY.out, HF.out])⟩
end Go.Proofs.YtmnndkhdekpecaaGreatDoor.Chu
namespace Go.Proofs.YtmnndkhdekpecaaGreatDoor.Chu
open Go.ChangeShapes Go.WideShapes Go.ChangeAt Go.RowKit
open Par (hidden Bytes Row Prm Prms cell_lt Cap cells_new cutA thrown form_of)
set_option linter.unusedVariables false
attribute [local go_sem ↓] execOp_ld execOp_bx execOp_st

section
variable {a : Act} {o : Oper} {w : World}
theorem o_as {v : Value} (x : Operand) (ho : o.op = .assign x) (hx : a.eval x = v) : (execOp a.eval o).run Tryz.prog w = .ok (.value v) w := by
  unfold execOp
  rw [ho]
  simp only [hx]
  rfl
theorem o_put {u0 u1 : Value} {m : Int} (x y : Operand) (h0 : a.eval x = u0) (h1 : a.eval y = u1) (ho : o.op = .call { callee := .value (.func 54), args := #[x, y, .const (.int .i64 m)], argTypes := #[27, 23, 3] }) : (execOp a.eval o).run Tryz.prog w = .ok (.enter 54 #[u0, u1, .int .i64 m]) w := by
  unfold execOp
  rw [ho]
  go_simp
  exact ⟨by cases x <;> simpa [Act.eval] using h0, by cases y <;> simpa [Act.eval] using h1⟩
theorem o_ia {b off n cap k : Nat} (x y : Operand) (h0 : a.eval x = .slice (some ⟨b, off, none⟩) n cap) (h1 : a.eval y = .int .i64 (k : Int)) (hk : k < n) (ho : o.op = .indexAddr 55 x y) : (execOp a.eval o).run Tryz.prog w = .ok (.value (.pointer (some ⟨b, off + k * 2, none⟩))) w := by
  unfold execOp
  rw [ho]
  simp only [h0, h1]
  have h2 : (k : Int) < (n : Int) := by omega
  go_simp
theorem o_g0 {b off : Nat} (x : Operand) (h0 : a.eval x = .pointer (some ⟨b, off, none⟩)) (ho : o.op = .fieldAddr 106 x 0) : (execOp a.eval o).run Tryz.prog w = .ok (.value (.pointer (some ⟨b, off, none⟩))) w := by
  unfold execOp
  rw [ho]
  simp only [h0]
  go_simp
theorem o_g1 {b off : Nat} (x : Operand) (h0 : a.eval x = .pointer (some ⟨b, off, none⟩)) (ho : o.op = .fieldAddr 106 x 1) : (execOp a.eval o).run Tryz.prog w = .ok (.value (.pointer (some ⟨b, off + 1, none⟩))) w := by
  unfold execOp
  rw [ho]
  simp only [h0]
  go_simp
theorem o_cv {v : Int} (x : Operand) (h0 : a.eval x = .int .u16 v) (hv : 0 ≤ v ∧ v < 65536) (ho : o.op = .convert 22 23 x) : (execOp a.eval o).run Tryz.prog w = .ok (.value (.int .u32 v)) w := by
  unfold execOp
  rw [ho]
  simp only [h0]
  have hw : ∀ z : Int, IntKind.u32.wrap z = z % 4294967296 := fun _ => rfl
  have h2 : v % 4294967296 = v := by omega
  go_simp
end
set_option maxRecDepth 20000 in
theorem rGaps (w0 w : World) (base : Nat) (v : Value) (xs : List Int) (h : Bd w0 w v xs) (hx : xs.length ≤ 100000) (a : Option Addr) (n cap : Nat) (gs : List (Int × Int)) (hg : Gaps base w0 a n gs) (hn : n ≤ 4096) :
    Calls Tryz.prog 86 #[v, .slice a n cap] w fun e w' => ∃ v', e = .returned v' ∧ Bd w0 w' v' (xs ++ gbytes gs) := by
  have HG := hidden hg
  have HH := hidden h
  have hgl := hg.1
  clear h hg
  go_enter Tryz.func86, Tryz.ntmps86
  go_wp2_with fail
  go_loopw [0, 5] (fun v i wr => ∃ k : Nat, k ≤ n ∧ i = .int .i64 k ∧ Bd w0 wr v (xs ++ gbytes (gs.take k))) (fun _ i _ => n - (intOf i).toNat)
  case atStart => exact ⟨0, Nat.zero_le _, rfl, by simpa [gbytes] using HH.out⟩
  case round =>
    obtain ⟨k, hk, rfl, hb⟩ := hrel
    obtain ⟨va, vc, rfl⟩ := hb.form
    generalize (xs ++ gbytes (gs.take k)).length = m at *
    rcases Nat.lt_or_ge k n with hlt | hge
    · obtain ⟨b, off, g1, g2, rfl, hgk, hc1, hc2, hb1, hb2⟩ := HG.out.get hlt
      have HLEN := hidden (show (xs ++ gbytes (gs.take k)).length = xs.length + 4 * k by rw [List.length_append, gbytes_len, List.length_take, hgl, Nat.min_eq_left hk])
      have HSN := hidden (gbytes_snoc hgk)
      have HC1 := hidden (show ∀ y, Below w0.heap.size w0 y → y.cell? ⟨b, off + k * 2, none⟩ = some (.int .u16 g1) from fun y hy => (hy.cell (cell_lt hc1)).trans hc1)
      have HC2 := hidden (show ∀ y, Below w0.heap.size w0 y → y.cell? ⟨b, off + k * 2 + 1, none⟩ = some (.int .u16 g2) from fun y hy => (hy.cell (cell_lt hc2)).trans hc2)
      have HB := hidden hb
      clear hc1 hc2 hgk hb
      have hlt2 : (k : Int) < (n : Int) := by omega
      go_wp2_with fail
      refine Ord.wp_region_ex (X := Value × Value) (by kernel_rfl) 28 (fun x => [(some 12, .slice va m vc), (some 13, .slice (some ⟨b, off, none⟩) n cap), (some 14, .int .i64 (k : Int)), (some 15, .pointer (some ⟨b, off + k * 2, none⟩)), (some 16, .pointer (some ⟨b, off + k * 2, none⟩)), (some 17, .int .u16 g1), (some 18, .int .u32 g1), (some 19, x.1), (some 20, .slice (some ⟨b, off, none⟩) n cap), (some 21, .int .i64 (k : Int)), (some 22, .pointer (some ⟨b, off + k * 2, none⟩)), (some 23, .pointer (some ⟨b, off + k * 2 + 1, none⟩)), (some 24, .int .u16 g2), (some 25, .int .u32 g2), (some 26, x.2), (some 0, x.2)]) [some 12, some 13, some 14, some 15, some 16, some 17, some 18, some 19, some 20, some 21, some 22, some 23, some 24, some 25, some 26, some 0] rfl (by kernel_rfl) (by rfl) (fun _ => rfl) (by kernel_rfl) (Ord.St 7 14 (fun y => Bd w0 y (.slice va m vc) (xs ++ gbytes (gs.take k))) (fun u y => Bd w0 y u (xs ++ gbytes (gs.take k) ++ twos [g1])) (fun u y => Bd w0 y u (xs ++ gbytes (gs.take k) ++ twos [g1] ++ twos [g2]))) (fun _ _ _ _ hL h => h.ext (n := 16) (by decide) (by decide) hL) ?_ ?_ (undef, undef) ?_
      case refine_1 =>
        intro x L i o ac w' ho hi hcl hdep hF hW
        have hK := hW.all (·.2) (fun _ h => h.2) (fun _ h => h.2)
        have f1' : ac.tmps.size = 28 := hF.1
        match i, ho, hi, hdep with
        | 0, ho, hi, hdep =>
          cases ho
          have hy : L 15 = false := by
            cases hb : L 15 with
            | false => rfl
            | true =>
              have h14 := hcl 15 _ rfl hb ⟨14, .data⟩ (by simp) rfl
              have h7 := hcl 14 _ rfl h14 ⟨7, .data⟩ (by simp) rfl
              have h0 := hcl 7 _ rfl h7 ⟨0, .data⟩ (by simp) rfl
              rw [hi] at h0; cases h0
          have da0 : ac.eval (.tmp 0) = .slice va m vc := hF.yet 0 15 (by rfl) hy
          exact Ord.ex_value x rfl rfl (o_mv _ rfl da0) rfl (hW.keep (by decide) (by decide))
        | 1, ho, hi, hdep =>
          cases ho
          have da0 : ac.eval (.tmp 1) = .slice (some ⟨b, off, none⟩) n cap := hF.old 1 rfl
          exact Ord.ex_value x rfl rfl (o_mv _ rfl da0) rfl (hW.keep (by decide) (by decide))
        | 2, ho, hi, hdep =>
          cases ho
          have da0 : ac.eval (.tmp 5) = .int .i64 (k : Int) := hF.old 5 rfl
          exact Ord.ex_value x rfl rfl (o_mv _ rfl da0) rfl (hW.keep (by decide) (by decide))
        | 3, ho, hi, hdep =>
          cases ho
          have da0 : ac.eval (.tmp 13) = .slice (some ⟨b, off, none⟩) n cap := hF.2.2.2 1 13 _ rfl (hdep ⟨1, .data⟩ (by simp) rfl)
          have da1 : ac.eval (.tmp 14) = .int .i64 (k : Int) := hF.2.2.2 2 14 _ rfl (hdep ⟨2, .data⟩ (by simp) rfl)
          exact Ord.ex_value x rfl rfl (o_ia _ _ da0 da1 hlt rfl) rfl (hW.keep (by decide) (by decide))
        | 4, ho, hi, hdep =>
          cases ho
          have da0 : ac.eval (.tmp 15) = .pointer (some ⟨b, off + k * 2, none⟩) := hF.2.2.2 3 15 _ rfl (hdep ⟨3, .data⟩ (by simp) rfl)
          exact Ord.ex_value x rfl rfl (o_g0 _ da0 rfl) rfl (hW.keep (by decide) (by decide))
        | 5, ho, hi, hdep =>
          cases ho
          have da0 : ac.eval (.tmp 16) = .pointer (some ⟨b, off + k * 2, none⟩) := hF.2.2.2 4 16 _ rfl (hdep ⟨4, .data⟩ (by simp) rfl)
          exact Ord.ex_value x rfl rfl (e_ld _ da0 rfl (ld16 _ _ _ (HC1.out _ hK))) rfl (hW.keep (by decide) (by decide))
        | 6, ho, hi, hdep =>
          cases ho
          have da0 : ac.eval (.tmp 17) = .int .u16 g1 := hF.2.2.2 5 17 _ rfl (hdep ⟨5, .data⟩ (by simp) rfl)
          exact Ord.ex_value x rfl rfl (o_cv _ da0 ⟨by omega, by omega⟩ rfl) rfl (hW.keep (by decide) (by decide))
        | 7, ho, hi, hdep =>
          cases ho
          have da0 : ac.eval (.tmp 12) = .slice va m vc := hF.2.2.2 0 12 _ rfl (hdep ⟨0, .data⟩ (by simp) rfl)
          have da1 : ac.eval (.tmp 18) = .int .u32 g1 := hF.2.2.2 6 18 _ rfl (hdep ⟨6, .data⟩ (by simp) rfl)
          refine Ord.ex_call x (fun v => (v, x.2)) rfl rfl (o_put _ _ da0 da1 rfl) (fun _ => rfl) (fun v j hj => match j, hj with | 0, _ => rfl | 1, _ => rfl | 2, _ => rfl | 3, _ => rfl | 4, _ => rfl | 5, _ => rfl | 6, _ => rfl | 7, hj => absurd hj (by rw [hi]; decide) | 8, _ => rfl | 9, _ => rfl | 10, _ => rfl | 11, _ => rfl | 12, _ => rfl | 13, _ => rfl | 14, _ => rfl | 15, _ => rfl | _ + 16, _ => rfl) (Calls.mono (rPut2 w0 w' _ (xs ++ gbytes (gs.take k)) (hW.1 hi) (by rw [HLEN.out]; omega) g1 (by omega) (by omega)) ?_)
          rintro e w1 ⟨v', rfl, hB⟩
          exact ⟨_, rfl, hW.one (by decide) hi (hB)⟩
        | 8, ho, hi, hdep =>
          cases ho
          have da0 : ac.eval (.tmp 1) = .slice (some ⟨b, off, none⟩) n cap := hF.old 1 rfl
          exact Ord.ex_value x rfl rfl (o_mv _ rfl da0) rfl (hW.keep (by decide) (by decide))
        | 9, ho, hi, hdep =>
          cases ho
          have da0 : ac.eval (.tmp 5) = .int .i64 (k : Int) := hF.old 5 rfl
          exact Ord.ex_value x rfl rfl (o_mv _ rfl da0) rfl (hW.keep (by decide) (by decide))
        | 10, ho, hi, hdep =>
          cases ho
          have da0 : ac.eval (.tmp 20) = .slice (some ⟨b, off, none⟩) n cap := hF.2.2.2 8 20 _ rfl (hdep ⟨8, .data⟩ (by simp) rfl)
          have da1 : ac.eval (.tmp 21) = .int .i64 (k : Int) := hF.2.2.2 9 21 _ rfl (hdep ⟨9, .data⟩ (by simp) rfl)
          exact Ord.ex_value x rfl rfl (o_ia _ _ da0 da1 hlt rfl) rfl (hW.keep (by decide) (by decide))
        | 11, ho, hi, hdep =>
          cases ho
          have da0 : ac.eval (.tmp 22) = .pointer (some ⟨b, off + k * 2, none⟩) := hF.2.2.2 10 22 _ rfl (hdep ⟨10, .data⟩ (by simp) rfl)
          exact Ord.ex_value x rfl rfl (o_g1 _ da0 rfl) rfl (hW.keep (by decide) (by decide))
        | 12, ho, hi, hdep =>
          cases ho
          have da0 : ac.eval (.tmp 23) = .pointer (some ⟨b, off + k * 2 + 1, none⟩) := hF.2.2.2 11 23 _ rfl (hdep ⟨11, .data⟩ (by simp) rfl)
          exact Ord.ex_value x rfl rfl (e_ld _ da0 rfl (ld16 _ _ _ (HC2.out _ hK))) rfl (hW.keep (by decide) (by decide))
        | 13, ho, hi, hdep =>
          cases ho
          have da0 : ac.eval (.tmp 24) = .int .u16 g2 := hF.2.2.2 12 24 _ rfl (hdep ⟨12, .data⟩ (by simp) rfl)
          exact Ord.ex_value x rfl rfl (o_cv _ da0 ⟨by omega, by omega⟩ rfl) rfl (hW.keep (by decide) (by decide))
        | 14, ho, hi, hdep =>
          cases ho
          have da0 : ac.eval (.tmp 19) = x.1 := hF.2.2.2 7 19 _ rfl (hdep ⟨7, .data⟩ (by simp) rfl)
          have da1 : ac.eval (.tmp 25) = .int .u32 g2 := hF.2.2.2 13 25 _ rfl (hdep ⟨13, .data⟩ (by simp) rfl)
          refine Ord.ex_call x (fun v => (x.1, v)) rfl rfl (o_put _ _ da0 da1 rfl) (fun _ => rfl) (fun v j hj => match j, hj with | 0, _ => rfl | 1, _ => rfl | 2, _ => rfl | 3, _ => rfl | 4, _ => rfl | 5, _ => rfl | 6, _ => rfl | 7, _ => rfl | 8, _ => rfl | 9, _ => rfl | 10, _ => rfl | 11, _ => rfl | 12, _ => rfl | 13, _ => rfl | 14, hj => absurd hj (by rw [hi]; decide) | 15, hj => absurd (hcl 15 _ rfl hj ⟨14, .data⟩ (by simp) rfl) (by rw [hi]; decide) | _ + 16, _ => rfl) (Calls.mono (rPut2 w0 w' _ (xs ++ gbytes (gs.take k) ++ twos [g1]) (hW.2.1 (hdep ⟨7, .data⟩ (by simp) rfl) hi) (by rw [List.length_append, HLEN.out, twos_len]; simp; omega) g2 (by omega) (by omega)) ?_)
          rintro e w1 ⟨v', rfl, hB⟩
          exact ⟨_, rfl, Ord.St.two (hdep ⟨7, .data⟩ (by simp) rfl) (hB)⟩
        | 15, ho, hi, hdep =>
          cases ho
          have da0 : ac.eval (.tmp 26) = x.2 := hF.2.2.2 14 26 _ rfl (hdep ⟨14, .data⟩ (by simp) rfl)
          exact Ord.ex_value x rfl rfl (o_as _ rfl da0) rfl (hW.keep (by decide) (by decide))
      case refine_2 =>
        intro x w1 hS
        have HB1 := hidden (hS.2.2.1 rfl)
        clear hS
        simp only [Ord.puts, Ord.prs, List.filterMap_cons, List.filterMap_nil, Option.map_some, List.foldl_cons, List.foldl_nil]
        go_simp
        go_wp2
        go_roundw
        case rel => exact ⟨k + 1, by omega, by go_num, HB1.out.eqn (by rw [HSN.out]; simp [twos])⟩
        case measure => simp [intOf]; omega
      case refine_3 =>
        exact ⟨fun _ => ⟨HB.out.1, Par.below_drewN HB.out.2 1⟩, fun e => Bool.noConfusion e, fun e => Bool.noConfusion e, fun e => Bool.noConfusion e⟩
    · obtain rfl : n = k := by omega
      have HF := hidden (show gs.take n = gs from List.take_of_length_le (by omega))
      have HB := hidden hb
      clear hb
      go_wp2
      go_ret
      exact ⟨_, rfl, HB.out.eqn (by rw [HF.out])⟩
end Go.Proofs.YtmnndkhdekpecaaGreatDoor.Chu
namespace Go.Proofs.YtmnndkhdekpecaaGreatDoor.Chu
open Go.ChangeShapes Go.WideShapes Go.ChangeAt Go.RowKit
open Par (hidden Bytes Row Prm Prms cell_lt Cap cells_new cutA thrown form_of)
set_option linter.unusedVariables false
set_option linter.unusedSimpArgs false
attribute [local go_sem ↓] execOp_ld execOp_bx execOp_st
attribute [local go_sem] run_box

section
variable {a : Act} {o : Oper} {w : World}
theorem lenG (w : World) (p : Option Addr) (n cap : Nat) (ty : TypeId) : (Builtin.len_ #[55] ty #[.slice p n cap]).run Tryz.prog w = .ok (.int .i64 (n : Int)) w := by simp [go_sem]
theorem lenD (w : World) (p : Option Addr) (n cap : Nat) (ty : TypeId) : (Builtin.len_ #[56] ty #[.slice p n cap]).run Tryz.prog w = .ok (.int .i64 (n : Int)) w := by simp [go_sem]
theorem lenB (w : World) (p : Option Addr) (n cap : Nat) (ty : TypeId) : (Builtin.len_ #[27] ty #[.slice p n cap]).run Tryz.prog w = .ok (.int .i64 (n : Int)) w := by simp [go_sem]
theorem o_len {p : Option Addr} {n cap : Nat} {t : TypeId} (hl : ∀ ty, (Builtin.len_ #[t] ty #[.slice p n cap]).run Tryz.prog w = .ok (.int .i64 (n : Int)) w) (x : Operand) (h0 : a.eval x = .slice p n cap) (ho : o.op = .call { callee := .builtin .len, args := #[x], argTypes := #[t] }) : (execOp a.eval o).run Tryz.prog w = .ok (.value (.int .i64 (n : Int))) w := by
  have e : execOp a.eval o = (do pure (.value (← Builtin.len_ #[t] o.type #[a.eval x]))) := by
    unfold execOp
    rw [ho]
    simp [resolve, invoke, builtin]
  rw [e, h0]
  exact Ord.run_v (hl _)
theorem o_cl {n : Nat} (x : Operand) (h0 : a.eval x = .int .i64 (n : Int)) (hn : n ≤ 100000) (ho : o.op = .convert 3 23 x) : (execOp a.eval o).run Tryz.prog w = .ok (.value (.int .u32 (n : Int))) w := by
  unfold execOp
  rw [ho]
  simp only [h0]
  have hw : ∀ z : Int, IntKind.u32.wrap z = z % 4294967296 := fun _ => rfl
  have h2 : (n : Int) % 4294967296 = n := by omega
  go_simp
theorem o_gaps {u0 u1 : Value} (x y : Operand) (h0 : a.eval x = u0) (h1 : a.eval y = u1) (ho : o.op = .call { callee := .value (.func 86), args := #[x, y], argTypes := #[27, 55] }) : (execOp a.eval o).run Tryz.prog w = .ok (.enter 86 #[u0, u1]) w := by
  unfold execOp
  rw [ho]
  go_simp
  exact ⟨by cases x <;> simpa [Act.eval] using h0, by cases y <;> simpa [Act.eval] using h1⟩
theorem ldG (w : World) (p : Addr) (va : Option Addr) (l k : Nat) (h : w.cell? p = some (.slice va l k)) : (Instr.loadAt 55 (.pointer (some p))).run Tryz.prog w = .ok (.slice va l k) w := by simp [go_sem, h]
theorem ldB (w : World) (p : Addr) (va : Option Addr) (l k : Nat) (h : w.cell? p = some (.slice va l k)) : (Instr.loadAt 27 (.pointer (some p))).run Tryz.prog w = .ok (.slice va l k) w := by simp [go_sem, h]
end
/-- parameters' bytes are bytes -/
theorem enc_by {base n : Nat} {w : World} {pa : Option Addr} {ps : List Prm} (h : Prms base w pa n ps) : Bytes (Par.enc (ps.map Par.val)) := Par.enc_bytes _ (by
  intro x hx
  obtain ⟨p, hp, rfl⟩ := List.mem_map.1 hx
  have := h.2.2.1 p hp
  exact ⟨this.1, this.2.1.2.1⟩)
/-- a row at the end of another -/
theorem run_apB {w0 w : World} {base : Nat} {v : Value} {xs ys : List Int} (h : Bd w0 w v xs) (pa : Option Addr) (m pc : Nat) (hr : Row base w pa m ys) (hn : pa = none → m = 0 ∧ pc = 0) (hl : xs.length + m ≤ 140737488355328) (ty : TypeId) :
    ∃ v' w', (Builtin.append_ #[27, 27] ty #[v, .slice pa m pc]).run Tryz.prog w = .ok v' w' ∧ Bd w0 w' v' (xs ++ ys) := by
  obtain ⟨i0, hi, hz0, hz1, hz2⟩ := info_parts Par.info5
  obtain ⟨a, cap, rfl⟩ := h.form
  cases pa with
  | none =>
    obtain ⟨rfl, rfl⟩ := hn rfl
    refine ⟨_, w, run_append_owned_none (P := Tryz.prog) (w := w) w0.heap.size 27 ty 5 i0 1 Tryz.underlying27 hi _ _ _ h.1, ?_⟩
    have e : ys = [] := List.eq_nil_of_length_eq_zero hr.1
    rw [e, List.append_nil]
    exact h
  | some ad =>
    obtain ⟨v', w', h1, h2, h3, _⟩ := run_append_own (P := Tryz.prog) w w0.heap.size 27 ty 5 i0 (.int .u8 0) 1 1 Tryz.underlying27 hi hz0 hz1 hz2 rfl (by decide) _ _ _ h.1 ad m pc (Par.cs ys) (by rw [Par.cs_len, hr.1, Nat.mul_one]) hr.news (Par.cs_one _) (by unfold maxLen; omega) (by omega) h.2.size
    exact ⟨v', w', h1, h.app rfl hr.1 h2 h3⟩
theorem o_apB {a : Act} {o : Oper} {w w' : World} {u v r : Value} (x y : Operand) (h0 : a.eval x = u) (h1 : a.eval y = v) (ho : o.op = .call { callee := .builtin .append, args := #[x, y], argTypes := #[27, 27] }) (hr : (Builtin.append_ #[27, 27] o.type #[u, v]).run Tryz.prog w = .ok r w') : (execOp a.eval o).run Tryz.prog w = .ok (.value r) w' := by
  have e : execOp a.eval o = (do pure (.value (← Builtin.append_ #[27, 27] o.type #[a.eval x, a.eval y]))) := by
    unfold execOp
    rw [ho]
    simp [resolve, invoke, builtin]
  rw [e, h0, h1]
  exact Ord.run_v hr
/-- what value tells -/
def ValR (w : World) (xs : List Int) (e : Ending) (w' : World) : Prop := ∃ w0 v, e = .returned v ∧ Bd w0 w' v xs ∧ Below w.heap.size w w0
set_option maxRecDepth 20000 in
set_option maxHeartbeats 2000000 in
theorem rValue7 (base : Nat) (c : Ck) (w : World) (hc : Chk base w c) (hk : c.kind = 7) (hO : OwnF (val c)) (hp : pcode (c.ps.map Par.val) = 0) (hG : c.gl ≤ 4096) (hN : c.nl ≤ 4096) (hD : c.dl ≤ 4096) (hbm : c.bl ≤ 140737488351232) :
    Calls Tryz.prog 53 #[cv c] w fun e w' => ValR w (vby (val c)) e w' := by
  obtain ⟨i0, hi, hz0, hz1, hz2⟩ := info_parts Par.info5
  have HVB := hidden (show vby (val c) = [] ++ fours [c.tsn] from by
    obtain ⟨_, _, _, _, _, _, _, _, _, h8, h9, h10, h11, h12⟩ := hO
    simp only [val, hk] at h8 h9 h10 h11 h12
    simp at h8 h9 h10 h11 h12
    simp [vby, lisB, num, val, hk, h8, h9, h10, h11, h12, gbytes, fours, Par.enc])
  have b1 := Bx.new w c
  have hb := below_box w c
  obtain ⟨⟨N0, N1, N2, N3, N4, N5, N6, N7, N8, N9⟩, hg, hn, hd, hbo, hbn, hprm⟩ := hc.later hb
  have NG : 0 ≤ (c.gl : Int) ∧ (c.gl : Int) < 65536 := by omega
  have NN : 0 ≤ (c.nl : Int) ∧ (c.nl : Int) < 65536 := by omega
  have ND : 0 ≤ (c.dl : Int) ∧ (c.dl : Int) < 65536 := by omega
  have HEN := hidden (Par.rEncode base _ c.pa c.pl c.pc c.ps hprm)
  have HPR := hidden hprm
  have HG := hidden hg
  have HN := hidden hn
  have HD := hidden hd
  have HBO := hidden hbo
  have HBN := hidden hbn
  have HW := hidden hb
  have HX := hidden b1
  have q14 := b1.c14
  clear hprm hg hn hd hbo hbn hb hc
  go_enter Tryz.func53, Tryz.ntmps53
  go_wp2_with fail
  refine Calls.mono HEN.out ?_
  rintro e w1 ⟨pv, cd, rfl, hcd, _, hok, be⟩
  have hcd0 : cd = 0 := (code_val HPR.out.2.2.1 hcd).trans hp
  subst hcd0
  have hlim : (Par.enc (c.ps.map Par.val)).length ≤ 16777728 := by
    rcases hcd with ⟨_, h⟩ | ⟨_, _, h⟩ | ⟨h1, h2, _⟩
    · cases h
    · cases h
    · have := Par.enc_take_le h2 h1 HPR.out.2.2.1 c.ps.length
      rwa [List.take_length] at this
  obtain ⟨pva, pvc, rfl, hprow, hpl, hpm, hpn⟩ := Par.row_own (hok rfl) (enc_by HPR.out) (by omega)
  have HPROW := hidden hprow
  have HPN := hidden hpn
  have HBX := hidden (show ∀ y, Below w1.heap.size w1 y → Bx y w.heap.size c from fun y hy => (HX.out.later be).later hy)
  have HLG := hidden (HG.out.later be)
  have HLN := hidden (HN.out.later be)
  have HLD := hidden (HD.out.later be)
  have HLB := hidden (HBO.out.later be)
  have HW1 := hidden (HW.out.trans (be.mono HW.out.size))
  have HB := hidden (Bd.nil w1)
  have hbx := HBX.out w1 (Below.refl _ _)
  have q0 := hbx.c0
  clear hok hcd hprow hpn hbx q14 be HEN b1
  rw [hk] at q0
  have q2 := (HBX.out w1 (Below.refl _ _)).c2
  go_wp2_with fail
  refine Calls.mono (rPut4 w1 w1 _ [] HB.out (by simp) c.tsn N2.1 N2.2) ?_
  rintro e w2 ⟨v', rfl, hB⟩
  have HB2 := hidden hB
  clear hB
  go_wp2
  go_ret
  exact ⟨w1, _, rfl, HB2.out.eqn HVB.out.symm, HW1.out⟩
set_option maxRecDepth 20000 in
set_option maxHeartbeats 2000000 in
theorem rValue0 (base : Nat) (c : Ck) (w : World) (hc : Chk base w c) (hk : c.kind = 0) (hO : OwnF (val c)) (hp : pcode (c.ps.map Par.val) = 0) (hG : c.gl ≤ 4096) (hN : c.nl ≤ 4096) (hD : c.dl ≤ 4096) (hbm : c.bl ≤ 140737488351232) :
    Calls Tryz.prog 53 #[cv c] w fun e w' => ValR w (vby (val c)) e w' := by
  obtain ⟨i0, hi, hz0, hz1, hz2⟩ := info_parts Par.info5
  have HVB := hidden (show vby (val c) = [] ++ fours [c.tsn] ++ twos [c.stream] ++ twos [c.ssn] ++ fours [c.proto] ++ c.bs from by
    obtain ⟨_, _, _, _, _, _, _, _, _, h8, h9, h10, h11, h12⟩ := hO
    simp only [val, hk] at h8 h9 h10 h11 h12
    simp at h8 h9 h10 h11 h12
    simp [vby, lisB, num, val, hk, h8, h9, h10, h12, gbytes, fours, twos, Par.enc])
  have b1 := Bx.new w c
  have hb := below_box w c
  obtain ⟨⟨N0, N1, N2, N3, N4, N5, N6, N7, N8, N9⟩, hg, hn, hd, hbo, hbn, hprm⟩ := hc.later hb
  have NG : 0 ≤ (c.gl : Int) ∧ (c.gl : Int) < 65536 := by omega
  have NN : 0 ≤ (c.nl : Int) ∧ (c.nl : Int) < 65536 := by omega
  have ND : 0 ≤ (c.dl : Int) ∧ (c.dl : Int) < 65536 := by omega
  have HEN := hidden (Par.rEncode base _ c.pa c.pl c.pc c.ps hprm)
  have HPR := hidden hprm
  have HG := hidden hg
  have HN := hidden hn
  have HD := hidden hd
  have HBO := hidden hbo
  have HBN := hidden hbn
  have HW := hidden hb
  have HX := hidden b1
  have q14 := b1.c14
  clear hprm hg hn hd hbo hbn hb hc
  go_enter Tryz.func53, Tryz.ntmps53
  go_wp2_with fail
  refine Calls.mono HEN.out ?_
  rintro e w1 ⟨pv, cd, rfl, hcd, _, hok, be⟩
  have hcd0 : cd = 0 := (code_val HPR.out.2.2.1 hcd).trans hp
  subst hcd0
  have hlim : (Par.enc (c.ps.map Par.val)).length ≤ 16777728 := by
    rcases hcd with ⟨_, h⟩ | ⟨_, _, h⟩ | ⟨h1, h2, _⟩
    · cases h
    · cases h
    · have := Par.enc_take_le h2 h1 HPR.out.2.2.1 c.ps.length
      rwa [List.take_length] at this
  obtain ⟨pva, pvc, rfl, hprow, hpl, hpm, hpn⟩ := Par.row_own (hok rfl) (enc_by HPR.out) (by omega)
  have HPROW := hidden hprow
  have HPN := hidden hpn
  have HBX := hidden (show ∀ y, Below w1.heap.size w1 y → Bx y w.heap.size c from fun y hy => (HX.out.later be).later hy)
  have HLG := hidden (HG.out.later be)
  have HLN := hidden (HN.out.later be)
  have HLD := hidden (HD.out.later be)
  have HLB := hidden (HBO.out.later be)
  have HW1 := hidden (HW.out.trans (be.mono HW.out.size))
  have HB := hidden (Bd.nil w1)
  have hbx := HBX.out w1 (Below.refl _ _)
  have q0 := hbx.c0
  clear hok hcd hprow hpn hbx q14 be HEN b1
  rw [hk] at q0
  go_wp2_with fail
  refine Ord.wp_region_ex (X := Value × Value) (by kernel_rfl) 147 (fun x => [(some 23, .slice none 0 0), (some 24, .pointer (some ⟨w.heap.size, 2, none⟩)), (some 25, .int .u32 c.tsn), (some 26, x.1), (some 27, .pointer (some ⟨w.heap.size, 3, none⟩)), (some 28, .int .u16 c.stream), (some 29, .int .u32 c.stream), (some 30, x.2), (some 3, x.2)]) [some 23, some 24, some 25, some 26, some 27, some 28, some 29, some 30, some 3] rfl (by kernel_rfl) (by rfl) (fun _ => rfl) (by kernel_rfl) (Ord.St 3 7 (fun y => Bd w1 y (.slice none 0 0) ([])) (fun u y => Bd w1 y u ([] ++ fours [c.tsn])) (fun u y => Bd w1 y u ([] ++ fours [c.tsn] ++ twos [c.stream]))) (fun _ _ _ _ hL h => h.ext (n := 9) (by decide) (by decide) hL) ?_ ?_ (undef, undef) ?_
  case refine_1 =>
    intro x L i o ac w' ho hi hcl hdep hF hW
    have hK := hW.all (·.2) (fun _ h => h.2) (fun _ h => h.2)
    have f1' : ac.tmps.size = 147 := hF.1
    match i, ho, hi, hdep with
    | 0, ho, hi, hdep =>
      cases ho
      have hy : L 8 = false := by
        cases hb : L 8 with
        | false => rfl
        | true =>
          have h7 := hcl 8 _ rfl hb ⟨7, .data⟩ (by simp) rfl
          have h3 := hcl 7 _ rfl h7 ⟨3, .data⟩ (by simp) rfl
          have h0 := hcl 3 _ rfl h3 ⟨0, .data⟩ (by simp) rfl
          rw [hi] at h0; cases h0
      have da0 : ac.eval (.tmp 3) = .slice none 0 0 := hF.yet 3 8 (by rfl) hy
      exact Ord.ex_value x rfl rfl (o_mv _ rfl da0) rfl (hW.keep (by decide) (by decide))
    | 1, ho, hi, hdep =>
      cases ho
      have da0 : ac.eval (.tmp 1) = .pointer (some ⟨w.heap.size, 0, none⟩) := hF.old 1 rfl
      exact Ord.ex_value x rfl rfl (e_fa _ da0 rfl (fa2 _ _)) rfl (hW.keep (by decide) (by decide))
    | 2, ho, hi, hdep =>
      cases ho
      have da0 : ac.eval (.tmp 24) = .pointer (some ⟨w.heap.size, 2, none⟩) := hF.2.2.2 1 24 _ rfl (hdep ⟨1, .data⟩ (by simp) rfl)
      exact Ord.ex_value x rfl rfl (e_ld _ da0 rfl (ld32 _ _ _ (HBX.out _ hK).c2)) rfl (hW.keep (by decide) (by decide))
    | 3, ho, hi, hdep =>
      cases ho
      have da0 : ac.eval (.tmp 23) = .slice none 0 0 := hF.2.2.2 0 23 _ rfl (hdep ⟨0, .data⟩ (by simp) rfl)
      have da1 : ac.eval (.tmp 25) = .int .u32 c.tsn := hF.2.2.2 2 25 _ rfl (hdep ⟨2, .data⟩ (by simp) rfl)
      refine Ord.ex_call x (fun v => (v, x.2)) rfl rfl (o_put _ _ da0 da1 rfl) (fun _ => rfl) (fun v j hj => match j, hj with | 0, _ => rfl | 1, _ => rfl | 2, _ => rfl | 3, hj => absurd hj (by rw [hi]; decide) | 4, _ => rfl | 5, _ => rfl | 6, _ => rfl | 7, _ => rfl | 8, _ => rfl | _ + 9, _ => rfl) (Calls.mono (rPut4 w1 w' _ ([]) (hW.1 hi) (by simp [fours_len, twos_len]) (c.tsn) N2.1 N2.2) ?_)
      rintro e w1 ⟨v', rfl, hB⟩
      exact ⟨_, rfl, hW.one (by decide) hi (hB)⟩
    | 4, ho, hi, hdep =>
      cases ho
      have da0 : ac.eval (.tmp 1) = .pointer (some ⟨w.heap.size, 0, none⟩) := hF.old 1 rfl
      exact Ord.ex_value x rfl rfl (e_fa _ da0 rfl (fa3 _ _)) rfl (hW.keep (by decide) (by decide))
    | 5, ho, hi, hdep =>
      cases ho
      have da0 : ac.eval (.tmp 27) = .pointer (some ⟨w.heap.size, 3, none⟩) := hF.2.2.2 4 27 _ rfl (hdep ⟨4, .data⟩ (by simp) rfl)
      exact Ord.ex_value x rfl rfl (e_ld _ da0 rfl (ld16 _ _ _ (HBX.out _ hK).c3)) rfl (hW.keep (by decide) (by decide))
    | 6, ho, hi, hdep =>
      cases ho
      have da0 : ac.eval (.tmp 28) = .int .u16 c.stream := hF.2.2.2 5 28 _ rfl (hdep ⟨5, .data⟩ (by simp) rfl)
      exact Ord.ex_value x rfl rfl (o_cv _ da0 N3 rfl) rfl (hW.keep (by decide) (by decide))
    | 7, ho, hi, hdep =>
      cases ho
      have da0 : ac.eval (.tmp 26) = x.1 := hF.2.2.2 3 26 _ rfl (hdep ⟨3, .data⟩ (by simp) rfl)
      have da1 : ac.eval (.tmp 29) = .int .u32 c.stream := hF.2.2.2 6 29 _ rfl (hdep ⟨6, .data⟩ (by simp) rfl)
      refine Ord.ex_call x (fun v => (x.1, v)) rfl rfl (o_put _ _ da0 da1 rfl) (fun _ => rfl) (fun v j hj => match j, hj with | 0, _ => rfl | 1, _ => rfl | 2, _ => rfl | 3, _ => rfl | 4, _ => rfl | 5, _ => rfl | 6, _ => rfl | 7, hj => absurd hj (by rw [hi]; decide) | 8, hj => absurd (hcl 8 _ rfl hj ⟨7, .data⟩ (by simp) rfl) (by rw [hi]; decide) | _ + 9, _ => rfl) (Calls.mono (rPut2 w1 w' _ ([] ++ fours [c.tsn]) (hW.2.1 (hdep ⟨3, .data⟩ (by simp) rfl) hi) (by simp [fours_len, twos_len]) (c.stream) N3.1 N3.2) ?_)
      rintro e w1 ⟨v', rfl, hB⟩
      exact ⟨_, rfl, Ord.St.two (hdep ⟨3, .data⟩ (by simp) rfl) (hB)⟩
    | 8, ho, hi, hdep =>
      cases ho
      have da0 : ac.eval (.tmp 30) = x.2 := hF.2.2.2 7 30 _ rfl (hdep ⟨7, .data⟩ (by simp) rfl)
      exact Ord.ex_value x rfl rfl (o_as _ rfl da0) rfl (hW.keep (by decide) (by decide))
  case refine_3 => exact ⟨fun _ => ⟨HB.out.1, Par.below_drewN HB.out.2 1⟩, fun e => Bool.noConfusion e, fun e => Bool.noConfusion e, fun e => Bool.noConfusion e⟩
  case refine_2 =>
    intro x wn hS
    have hBn := hS.2.2.1 rfl
    clear hS
    obtain ⟨x1, x2⟩ := x
    simp only at hBn
    obtain ⟨va, vc, rfl⟩ := hBn.form
    clear HB
    have HB := hidden hBn
    have hbx := HBX.out _ hBn.2
    
    clear hBn hbx
    generalize hlen : ([] ++ fours [c.tsn] ++ twos [c.stream]).length = m at *
    have HLEN := hidden hlen
    clear hlen
    simp only [Ord.puts, Ord.prs, List.filterMap_cons, List.filterMap_nil, Option.map_some, List.foldl_cons, List.foldl_nil]
    go_simp
    go_wp2_with fail
    refine Ord.wp_region_ex (X := Value × Value) (by kernel_rfl) 147 (fun x => [(some 31, .slice va m vc), (some 32, .pointer (some ⟨w.heap.size, 4, none⟩)), (some 33, .int .u16 c.ssn), (some 34, .int .u32 c.ssn), (some 35, x.1), (some 36, .pointer (some ⟨w.heap.size, 5, none⟩)), (some 37, .int .u32 c.proto), (some 38, x.2), (some 3, x.2)]) [some 31, some 32, some 33, some 34, some 35, some 36, some 37, some 38, some 3] rfl (by kernel_rfl) (by rfl) (fun _ => rfl) (by kernel_rfl) (Ord.St 4 7 (fun y => Bd w1 y (.slice va m vc) ([] ++ fours [c.tsn] ++ twos [c.stream])) (fun u y => Bd w1 y u ([] ++ fours [c.tsn] ++ twos [c.stream] ++ twos [c.ssn])) (fun u y => Bd w1 y u ([] ++ fours [c.tsn] ++ twos [c.stream] ++ twos [c.ssn] ++ fours [c.proto]))) (fun _ _ _ _ hL h => h.ext (n := 9) (by decide) (by decide) hL) ?_ ?_ (undef, undef) ?_
    case refine_1 =>
      intro x L i o ac w' ho hi hcl hdep hF hW
      have hK := hW.all (·.2) (fun _ h => h.2) (fun _ h => h.2)
      have f1' : ac.tmps.size = 147 := hF.1
      match i, ho, hi, hdep with
      | 0, ho, hi, hdep =>
        cases ho
        have hy : L 8 = false := by
          cases hb : L 8 with
          | false => rfl
          | true =>
            have h7 := hcl 8 _ rfl hb ⟨7, .data⟩ (by simp) rfl
            have h4 := hcl 7 _ rfl h7 ⟨4, .data⟩ (by simp) rfl
            have h0 := hcl 4 _ rfl h4 ⟨0, .data⟩ (by simp) rfl
            rw [hi] at h0; cases h0
        have da0 : ac.eval (.tmp 3) = .slice va m vc := hF.yet 3 8 (by rfl) hy
        exact Ord.ex_value x rfl rfl (o_mv _ rfl da0) rfl (hW.keep (by decide) (by decide))
      | 1, ho, hi, hdep =>
        cases ho
        have da0 : ac.eval (.tmp 1) = .pointer (some ⟨w.heap.size, 0, none⟩) := hF.old 1 rfl
        exact Ord.ex_value x rfl rfl (e_fa _ da0 rfl (fa4 _ _)) rfl (hW.keep (by decide) (by decide))
      | 2, ho, hi, hdep =>
        cases ho
        have da0 : ac.eval (.tmp 32) = .pointer (some ⟨w.heap.size, 4, none⟩) := hF.2.2.2 1 32 _ rfl (hdep ⟨1, .data⟩ (by simp) rfl)
        exact Ord.ex_value x rfl rfl (e_ld _ da0 rfl (ld16 _ _ _ (HBX.out _ hK).c4)) rfl (hW.keep (by decide) (by decide))
      | 3, ho, hi, hdep =>
        cases ho
        have da0 : ac.eval (.tmp 33) = .int .u16 c.ssn := hF.2.2.2 2 33 _ rfl (hdep ⟨2, .data⟩ (by simp) rfl)
        exact Ord.ex_value x rfl rfl (o_cv _ da0 N4 rfl) rfl (hW.keep (by decide) (by decide))
      | 4, ho, hi, hdep =>
        cases ho
        have da0 : ac.eval (.tmp 31) = .slice va m vc := hF.2.2.2 0 31 _ rfl (hdep ⟨0, .data⟩ (by simp) rfl)
        have da1 : ac.eval (.tmp 34) = .int .u32 c.ssn := hF.2.2.2 3 34 _ rfl (hdep ⟨3, .data⟩ (by simp) rfl)
        refine Ord.ex_call x (fun v => (v, x.2)) rfl rfl (o_put _ _ da0 da1 rfl) (fun _ => rfl) (fun v j hj => match j, hj with | 0, _ => rfl | 1, _ => rfl | 2, _ => rfl | 3, _ => rfl | 4, hj => absurd hj (by rw [hi]; decide) | 5, _ => rfl | 6, _ => rfl | 7, _ => rfl | 8, _ => rfl | _ + 9, _ => rfl) (Calls.mono (rPut2 w1 w' _ ([] ++ fours [c.tsn] ++ twos [c.stream]) (hW.1 hi) (by simp [fours_len, twos_len]) (c.ssn) N4.1 N4.2) ?_)
        rintro e w1 ⟨v', rfl, hB⟩
        exact ⟨_, rfl, hW.one (by decide) hi (hB)⟩
      | 5, ho, hi, hdep =>
        cases ho
        have da0 : ac.eval (.tmp 1) = .pointer (some ⟨w.heap.size, 0, none⟩) := hF.old 1 rfl
        exact Ord.ex_value x rfl rfl (e_fa _ da0 rfl (fa5 _ _)) rfl (hW.keep (by decide) (by decide))
      | 6, ho, hi, hdep =>
        cases ho
        have da0 : ac.eval (.tmp 36) = .pointer (some ⟨w.heap.size, 5, none⟩) := hF.2.2.2 5 36 _ rfl (hdep ⟨5, .data⟩ (by simp) rfl)
        exact Ord.ex_value x rfl rfl (e_ld _ da0 rfl (ld32 _ _ _ (HBX.out _ hK).c5)) rfl (hW.keep (by decide) (by decide))
      | 7, ho, hi, hdep =>
        cases ho
        have da0 : ac.eval (.tmp 35) = x.1 := hF.2.2.2 4 35 _ rfl (hdep ⟨4, .data⟩ (by simp) rfl)
        have da1 : ac.eval (.tmp 37) = .int .u32 c.proto := hF.2.2.2 6 37 _ rfl (hdep ⟨6, .data⟩ (by simp) rfl)
        refine Ord.ex_call x (fun v => (x.1, v)) rfl rfl (o_put _ _ da0 da1 rfl) (fun _ => rfl) (fun v j hj => match j, hj with | 0, _ => rfl | 1, _ => rfl | 2, _ => rfl | 3, _ => rfl | 4, _ => rfl | 5, _ => rfl | 6, _ => rfl | 7, hj => absurd hj (by rw [hi]; decide) | 8, hj => absurd (hcl 8 _ rfl hj ⟨7, .data⟩ (by simp) rfl) (by rw [hi]; decide) | _ + 9, _ => rfl) (Calls.mono (rPut4 w1 w' _ ([] ++ fours [c.tsn] ++ twos [c.stream] ++ twos [c.ssn]) (hW.2.1 (hdep ⟨4, .data⟩ (by simp) rfl) hi) (by simp [fours_len, twos_len]) (c.proto) N5.1 N5.2) ?_)
        rintro e w1 ⟨v', rfl, hB⟩
        exact ⟨_, rfl, Ord.St.two (hdep ⟨4, .data⟩ (by simp) rfl) (hB)⟩
      | 8, ho, hi, hdep =>
        cases ho
        have da0 : ac.eval (.tmp 38) = x.2 := hF.2.2.2 7 38 _ rfl (hdep ⟨7, .data⟩ (by simp) rfl)
        exact Ord.ex_value x rfl rfl (o_as _ rfl da0) rfl (hW.keep (by decide) (by decide))
    case refine_3 => exact ⟨fun _ => ⟨HB.out.1, Par.below_drewN HB.out.2 1⟩, fun e => Bool.noConfusion e, fun e => Bool.noConfusion e, fun e => Bool.noConfusion e⟩
    case refine_2 =>
      intro x wn hS
      have hBn := hS.2.2.1 rfl
      clear hS
      obtain ⟨x1, x2⟩ := x
      simp only at hBn
      obtain ⟨va, vc, rfl⟩ := hBn.form
      clear HB
      have HB := hidden hBn
      have hbx := HBX.out _ hBn.2
      have q13 := hbx.c13
      clear hBn hbx
      generalize hlen : ([] ++ fours [c.tsn] ++ twos [c.stream] ++ twos [c.ssn] ++ fours [c.proto]).length = m at *
      have HLEN := hidden hlen
      clear hlen
      simp only [Ord.puts, Ord.prs, List.filterMap_cons, List.filterMap_nil, Option.map_some, List.foldl_cons, List.foldl_nil]
      go_simp
      have hm : m ≤ 12 := by rw [← HLEN.out]; simp [fours_len, twos_len]
      have HWN := hidden HB.out.2.size
      have hbl := HLB.out.2.2.1
      have hbz := HLB.out.1
      rcases hba : c.ba with _ | ad
      · obtain ⟨hl0, hc0⟩ := HBN.out hba
        have HBNL := hidden (show c.bs = [] from List.eq_nil_of_length_eq_zero (by omega))
        rw [hba, hl0, hc0] at q13
        go_wp2_with (at_builtin; refine wpList_append_own_none rfl _ _ 27 rfl w1.heap.size 5 i0 1 Tryz.underlying27 hi _ _ _ rfl (HB.out.own HLEN.out) rfl ?_)
        go_wp2
        go_ret
        exact ⟨w1, _, rfl, HB.out.eqn (by rw [HVB.out, HBNL.out, List.append_nil]), HW1.out⟩
      · have HN6 := hidden (show Row base wn (some ad) c.bl c.bs by rw [← hba]; exact HLB.out.later HB.out.2).news
        rw [hba] at q13
        go_wp2_with (at_builtin; refine wpList_append_own _ rfl _ _ 27 rfl w1.heap.size 5 i0 (.int .u8 0) 1 1 Tryz.underlying27 hi hz0 hz1 hz2 rfl (by decide) _ _ _ rfl (HB.out.own HLEN.out) ad c.bl c.bc (Par.cs c.bs) rfl ?g0 HN6.out (Par.cs_one _) ?g3 ?g4 HWN.out ?_)
        case g0 => rw [Par.cs_len, hbz, Nat.mul_one]
        case g3 => unfold maxLen; omega
        case g4 => omega
        intro v7 w7 ho7 hg7 _
        have HB7 := hidden (HB.out.app HLEN.out hbz ho7 hg7)
        clear ho7 hg7
        go_wp2
        go_ret
        exact ⟨w1, _, rfl, HB7.out.eqn HVB.out.symm, HW1.out⟩
set_option maxRecDepth 20000 in
set_option maxHeartbeats 2000000 in
theorem rValue1 (base : Nat) (c : Ck) (w : World) (hc : Chk base w c) (hk : c.kind = 1) (hO : OwnF (val c)) (hp : pcode (c.ps.map Par.val) = 0) (hG : c.gl ≤ 4096) (hN : c.nl ≤ 4096) (hD : c.dl ≤ 4096) (hbm : c.bl ≤ 140737488351232) :
    Calls Tryz.prog 53 #[cv c] w fun e w' => ValR w (vby (val c)) e w' := by
  obtain ⟨i0, hi, hz0, hz1, hz2⟩ := info_parts Par.info5
  have HVB := hidden (show vby (val c) = [] ++ fours [c.tag] ++ fours [c.win] ++ twos [c.out] ++ twos [c.inn] ++ fours [c.tsn] ++ Par.enc (c.ps.map Par.val) from by
    obtain ⟨_, _, _, _, _, _, _, _, _, h8, h9, h10, h11, h12⟩ := hO
    simp only [val, hk] at h8 h9 h10 h11 h12
    simp at h8 h9 h10 h11
    simp [vby, lisB, num, val, hk, h8, h9, h10, h11, gbytes, fours, twos])
  have b1 := Bx.new w c
  have hb := below_box w c
  obtain ⟨⟨N0, N1, N2, N3, N4, N5, N6, N7, N8, N9⟩, hg, hn, hd, hbo, hbn, hprm⟩ := hc.later hb
  have NG : 0 ≤ (c.gl : Int) ∧ (c.gl : Int) < 65536 := by omega
  have NN : 0 ≤ (c.nl : Int) ∧ (c.nl : Int) < 65536 := by omega
  have ND : 0 ≤ (c.dl : Int) ∧ (c.dl : Int) < 65536 := by omega
  have HEN := hidden (Par.rEncode base _ c.pa c.pl c.pc c.ps hprm)
  have HPR := hidden hprm
  have HG := hidden hg
  have HN := hidden hn
  have HD := hidden hd
  have HBO := hidden hbo
  have HBN := hidden hbn
  have HW := hidden hb
  have HX := hidden b1
  have q14 := b1.c14
  clear hprm hg hn hd hbo hbn hb hc
  go_enter Tryz.func53, Tryz.ntmps53
  go_wp2_with fail
  refine Calls.mono HEN.out ?_
  rintro e w1 ⟨pv, cd, rfl, hcd, _, hok, be⟩
  have hcd0 : cd = 0 := (code_val HPR.out.2.2.1 hcd).trans hp
  subst hcd0
  have hlim : (Par.enc (c.ps.map Par.val)).length ≤ 16777728 := by
    rcases hcd with ⟨_, h⟩ | ⟨_, _, h⟩ | ⟨h1, h2, _⟩
    · cases h
    · cases h
    · have := Par.enc_take_le h2 h1 HPR.out.2.2.1 c.ps.length
      rwa [List.take_length] at this
  obtain ⟨pva, pvc, rfl, hprow, hpl, hpm, hpn⟩ := Par.row_own (hok rfl) (enc_by HPR.out) (by omega)
  have HPROW := hidden hprow
  have HPN := hidden hpn
  have HBX := hidden (show ∀ y, Below w1.heap.size w1 y → Bx y w.heap.size c from fun y hy => (HX.out.later be).later hy)
  have HLG := hidden (HG.out.later be)
  have HLN := hidden (HN.out.later be)
  have HLD := hidden (HD.out.later be)
  have HLB := hidden (HBO.out.later be)
  have HW1 := hidden (HW.out.trans (be.mono HW.out.size))
  have HB := hidden (Bd.nil w1)
  have hbx := HBX.out w1 (Below.refl _ _)
  have q0 := hbx.c0
  clear hok hcd hprow hpn hbx q14 be HEN b1
  rw [hk] at q0
  go_wp2_with fail
  refine Ord.wp_region_ex (X := Value × Value) (by kernel_rfl) 147 (fun x => [(some 46, .slice none 0 0), (some 47, .pointer (some ⟨w.heap.size, 6, none⟩)), (some 48, .int .u32 c.tag), (some 49, x.1), (some 50, .pointer (some ⟨w.heap.size, 7, none⟩)), (some 51, .int .u32 c.win), (some 52, x.2), (some 3, x.2)]) [some 46, some 47, some 48, some 49, some 50, some 51, some 52, some 3] rfl (by kernel_rfl) (by rfl) (fun _ => rfl) (by kernel_rfl) (Ord.St 3 6 (fun y => Bd w1 y (.slice none 0 0) ([])) (fun u y => Bd w1 y u ([] ++ fours [c.tag])) (fun u y => Bd w1 y u ([] ++ fours [c.tag] ++ fours [c.win]))) (fun _ _ _ _ hL h => h.ext (n := 8) (by decide) (by decide) hL) ?_ ?_ (undef, undef) ?_
  case refine_1 =>
    intro x L i o ac w' ho hi hcl hdep hF hW
    have hK := hW.all (·.2) (fun _ h => h.2) (fun _ h => h.2)
    have f1' : ac.tmps.size = 147 := hF.1
    match i, ho, hi, hdep with
    | 0, ho, hi, hdep =>
      cases ho
      have hy : L 7 = false := by
        cases hb : L 7 with
        | false => rfl
        | true =>
          have h6 := hcl 7 _ rfl hb ⟨6, .data⟩ (by simp) rfl
          have h3 := hcl 6 _ rfl h6 ⟨3, .data⟩ (by simp) rfl
          have h0 := hcl 3 _ rfl h3 ⟨0, .data⟩ (by simp) rfl
          rw [hi] at h0; cases h0
      have da0 : ac.eval (.tmp 3) = .slice none 0 0 := hF.yet 3 7 (by rfl) hy
      exact Ord.ex_value x rfl rfl (o_mv _ rfl da0) rfl (hW.keep (by decide) (by decide))
    | 1, ho, hi, hdep =>
      cases ho
      have da0 : ac.eval (.tmp 1) = .pointer (some ⟨w.heap.size, 0, none⟩) := hF.old 1 rfl
      exact Ord.ex_value x rfl rfl (e_fa _ da0 rfl (fa6 _ _)) rfl (hW.keep (by decide) (by decide))
    | 2, ho, hi, hdep =>
      cases ho
      have da0 : ac.eval (.tmp 47) = .pointer (some ⟨w.heap.size, 6, none⟩) := hF.2.2.2 1 47 _ rfl (hdep ⟨1, .data⟩ (by simp) rfl)
      exact Ord.ex_value x rfl rfl (e_ld _ da0 rfl (ld32 _ _ _ (HBX.out _ hK).c6)) rfl (hW.keep (by decide) (by decide))
    | 3, ho, hi, hdep =>
      cases ho
      have da0 : ac.eval (.tmp 46) = .slice none 0 0 := hF.2.2.2 0 46 _ rfl (hdep ⟨0, .data⟩ (by simp) rfl)
      have da1 : ac.eval (.tmp 48) = .int .u32 c.tag := hF.2.2.2 2 48 _ rfl (hdep ⟨2, .data⟩ (by simp) rfl)
      refine Ord.ex_call x (fun v => (v, x.2)) rfl rfl (o_put _ _ da0 da1 rfl) (fun _ => rfl) (fun v j hj => match j, hj with | 0, _ => rfl | 1, _ => rfl | 2, _ => rfl | 3, hj => absurd hj (by rw [hi]; decide) | 4, _ => rfl | 5, _ => rfl | 6, _ => rfl | 7, _ => rfl | _ + 8, _ => rfl) (Calls.mono (rPut4 w1 w' _ ([]) (hW.1 hi) (by simp [fours_len, twos_len]) (c.tag) N6.1 N6.2) ?_)
      rintro e w1 ⟨v', rfl, hB⟩
      exact ⟨_, rfl, hW.one (by decide) hi (hB)⟩
    | 4, ho, hi, hdep =>
      cases ho
      have da0 : ac.eval (.tmp 1) = .pointer (some ⟨w.heap.size, 0, none⟩) := hF.old 1 rfl
      exact Ord.ex_value x rfl rfl (e_fa _ da0 rfl (fa7 _ _)) rfl (hW.keep (by decide) (by decide))
    | 5, ho, hi, hdep =>
      cases ho
      have da0 : ac.eval (.tmp 50) = .pointer (some ⟨w.heap.size, 7, none⟩) := hF.2.2.2 4 50 _ rfl (hdep ⟨4, .data⟩ (by simp) rfl)
      exact Ord.ex_value x rfl rfl (e_ld _ da0 rfl (ld32 _ _ _ (HBX.out _ hK).c7)) rfl (hW.keep (by decide) (by decide))
    | 6, ho, hi, hdep =>
      cases ho
      have da0 : ac.eval (.tmp 49) = x.1 := hF.2.2.2 3 49 _ rfl (hdep ⟨3, .data⟩ (by simp) rfl)
      have da1 : ac.eval (.tmp 51) = .int .u32 c.win := hF.2.2.2 5 51 _ rfl (hdep ⟨5, .data⟩ (by simp) rfl)
      refine Ord.ex_call x (fun v => (x.1, v)) rfl rfl (o_put _ _ da0 da1 rfl) (fun _ => rfl) (fun v j hj => match j, hj with | 0, _ => rfl | 1, _ => rfl | 2, _ => rfl | 3, _ => rfl | 4, _ => rfl | 5, _ => rfl | 6, hj => absurd hj (by rw [hi]; decide) | 7, hj => absurd (hcl 7 _ rfl hj ⟨6, .data⟩ (by simp) rfl) (by rw [hi]; decide) | _ + 8, _ => rfl) (Calls.mono (rPut4 w1 w' _ ([] ++ fours [c.tag]) (hW.2.1 (hdep ⟨3, .data⟩ (by simp) rfl) hi) (by simp [fours_len, twos_len]) (c.win) N7.1 N7.2) ?_)
      rintro e w1 ⟨v', rfl, hB⟩
      exact ⟨_, rfl, Ord.St.two (hdep ⟨3, .data⟩ (by simp) rfl) (hB)⟩
    | 7, ho, hi, hdep =>
      cases ho
      have da0 : ac.eval (.tmp 52) = x.2 := hF.2.2.2 6 52 _ rfl (hdep ⟨6, .data⟩ (by simp) rfl)
      exact Ord.ex_value x rfl rfl (o_as _ rfl da0) rfl (hW.keep (by decide) (by decide))
  case refine_3 => exact ⟨fun _ => ⟨HB.out.1, Par.below_drewN HB.out.2 1⟩, fun e => Bool.noConfusion e, fun e => Bool.noConfusion e, fun e => Bool.noConfusion e⟩
  case refine_2 =>
    intro x wn hS
    have hBn := hS.2.2.1 rfl
    clear hS
    obtain ⟨x1, x2⟩ := x
    simp only at hBn
    obtain ⟨va, vc, rfl⟩ := hBn.form
    clear HB
    have HB := hidden hBn
    have hbx := HBX.out _ hBn.2
    
    clear hBn hbx
    generalize hlen : ([] ++ fours [c.tag] ++ fours [c.win]).length = m at *
    have HLEN := hidden hlen
    clear hlen
    simp only [Ord.puts, Ord.prs, List.filterMap_cons, List.filterMap_nil, Option.map_some, List.foldl_cons, List.foldl_nil]
    go_simp
    go_wp2_with fail
    refine Ord.wp_region_ex (X := Value × Value) (by kernel_rfl) 147 (fun x => [(some 53, .slice va m vc), (some 54, .pointer (some ⟨w.heap.size, 8, none⟩)), (some 55, .int .u16 c.out), (some 56, .int .u32 c.out), (some 57, x.1), (some 58, .pointer (some ⟨w.heap.size, 9, none⟩)), (some 59, .int .u16 c.inn), (some 60, .int .u32 c.inn), (some 61, x.2), (some 3, x.2)]) [some 53, some 54, some 55, some 56, some 57, some 58, some 59, some 60, some 61, some 3] rfl (by kernel_rfl) (by rfl) (fun _ => rfl) (by kernel_rfl) (Ord.St 4 8 (fun y => Bd w1 y (.slice va m vc) ([] ++ fours [c.tag] ++ fours [c.win])) (fun u y => Bd w1 y u ([] ++ fours [c.tag] ++ fours [c.win] ++ twos [c.out])) (fun u y => Bd w1 y u ([] ++ fours [c.tag] ++ fours [c.win] ++ twos [c.out] ++ twos [c.inn]))) (fun _ _ _ _ hL h => h.ext (n := 10) (by decide) (by decide) hL) ?_ ?_ (undef, undef) ?_
    case refine_1 =>
      intro x L i o ac w' ho hi hcl hdep hF hW
      have hK := hW.all (·.2) (fun _ h => h.2) (fun _ h => h.2)
      have f1' : ac.tmps.size = 147 := hF.1
      match i, ho, hi, hdep with
      | 0, ho, hi, hdep =>
        cases ho
        have hy : L 9 = false := by
          cases hb : L 9 with
          | false => rfl
          | true =>
            have h8 := hcl 9 _ rfl hb ⟨8, .data⟩ (by simp) rfl
            have h4 := hcl 8 _ rfl h8 ⟨4, .data⟩ (by simp) rfl
            have h0 := hcl 4 _ rfl h4 ⟨0, .data⟩ (by simp) rfl
            rw [hi] at h0; cases h0
        have da0 : ac.eval (.tmp 3) = .slice va m vc := hF.yet 3 9 (by rfl) hy
        exact Ord.ex_value x rfl rfl (o_mv _ rfl da0) rfl (hW.keep (by decide) (by decide))
      | 1, ho, hi, hdep =>
        cases ho
        have da0 : ac.eval (.tmp 1) = .pointer (some ⟨w.heap.size, 0, none⟩) := hF.old 1 rfl
        exact Ord.ex_value x rfl rfl (e_fa _ da0 rfl (fa8 _ _)) rfl (hW.keep (by decide) (by decide))
      | 2, ho, hi, hdep =>
        cases ho
        have da0 : ac.eval (.tmp 54) = .pointer (some ⟨w.heap.size, 8, none⟩) := hF.2.2.2 1 54 _ rfl (hdep ⟨1, .data⟩ (by simp) rfl)
        exact Ord.ex_value x rfl rfl (e_ld _ da0 rfl (ld16 _ _ _ (HBX.out _ hK).c8)) rfl (hW.keep (by decide) (by decide))
      | 3, ho, hi, hdep =>
        cases ho
        have da0 : ac.eval (.tmp 55) = .int .u16 c.out := hF.2.2.2 2 55 _ rfl (hdep ⟨2, .data⟩ (by simp) rfl)
        exact Ord.ex_value x rfl rfl (o_cv _ da0 N8 rfl) rfl (hW.keep (by decide) (by decide))
      | 4, ho, hi, hdep =>
        cases ho
        have da0 : ac.eval (.tmp 53) = .slice va m vc := hF.2.2.2 0 53 _ rfl (hdep ⟨0, .data⟩ (by simp) rfl)
        have da1 : ac.eval (.tmp 56) = .int .u32 c.out := hF.2.2.2 3 56 _ rfl (hdep ⟨3, .data⟩ (by simp) rfl)
        refine Ord.ex_call x (fun v => (v, x.2)) rfl rfl (o_put _ _ da0 da1 rfl) (fun _ => rfl) (fun v j hj => match j, hj with | 0, _ => rfl | 1, _ => rfl | 2, _ => rfl | 3, _ => rfl | 4, hj => absurd hj (by rw [hi]; decide) | 5, _ => rfl | 6, _ => rfl | 7, _ => rfl | 8, _ => rfl | 9, _ => rfl | _ + 10, _ => rfl) (Calls.mono (rPut2 w1 w' _ ([] ++ fours [c.tag] ++ fours [c.win]) (hW.1 hi) (by simp [fours_len, twos_len]) (c.out) N8.1 N8.2) ?_)
        rintro e w1 ⟨v', rfl, hB⟩
        exact ⟨_, rfl, hW.one (by decide) hi (hB)⟩
      | 5, ho, hi, hdep =>
        cases ho
        have da0 : ac.eval (.tmp 1) = .pointer (some ⟨w.heap.size, 0, none⟩) := hF.old 1 rfl
        exact Ord.ex_value x rfl rfl (e_fa _ da0 rfl (fa9 _ _)) rfl (hW.keep (by decide) (by decide))
      | 6, ho, hi, hdep =>
        cases ho
        have da0 : ac.eval (.tmp 58) = .pointer (some ⟨w.heap.size, 9, none⟩) := hF.2.2.2 5 58 _ rfl (hdep ⟨5, .data⟩ (by simp) rfl)
        exact Ord.ex_value x rfl rfl (e_ld _ da0 rfl (ld16 _ _ _ (HBX.out _ hK).c9)) rfl (hW.keep (by decide) (by decide))
      | 7, ho, hi, hdep =>
        cases ho
        have da0 : ac.eval (.tmp 59) = .int .u16 c.inn := hF.2.2.2 6 59 _ rfl (hdep ⟨6, .data⟩ (by simp) rfl)
        exact Ord.ex_value x rfl rfl (o_cv _ da0 N9 rfl) rfl (hW.keep (by decide) (by decide))
      | 8, ho, hi, hdep =>
        cases ho
        have da0 : ac.eval (.tmp 57) = x.1 := hF.2.2.2 4 57 _ rfl (hdep ⟨4, .data⟩ (by simp) rfl)
        have da1 : ac.eval (.tmp 60) = .int .u32 c.inn := hF.2.2.2 7 60 _ rfl (hdep ⟨7, .data⟩ (by simp) rfl)
        refine Ord.ex_call x (fun v => (x.1, v)) rfl rfl (o_put _ _ da0 da1 rfl) (fun _ => rfl) (fun v j hj => match j, hj with | 0, _ => rfl | 1, _ => rfl | 2, _ => rfl | 3, _ => rfl | 4, _ => rfl | 5, _ => rfl | 6, _ => rfl | 7, _ => rfl | 8, hj => absurd hj (by rw [hi]; decide) | 9, hj => absurd (hcl 9 _ rfl hj ⟨8, .data⟩ (by simp) rfl) (by rw [hi]; decide) | _ + 10, _ => rfl) (Calls.mono (rPut2 w1 w' _ ([] ++ fours [c.tag] ++ fours [c.win] ++ twos [c.out]) (hW.2.1 (hdep ⟨4, .data⟩ (by simp) rfl) hi) (by simp [fours_len, twos_len]) (c.inn) N9.1 N9.2) ?_)
        rintro e w1 ⟨v', rfl, hB⟩
        exact ⟨_, rfl, Ord.St.two (hdep ⟨4, .data⟩ (by simp) rfl) (hB)⟩
      | 9, ho, hi, hdep =>
        cases ho
        have da0 : ac.eval (.tmp 61) = x.2 := hF.2.2.2 8 61 _ rfl (hdep ⟨8, .data⟩ (by simp) rfl)
        exact Ord.ex_value x rfl rfl (o_as _ rfl da0) rfl (hW.keep (by decide) (by decide))
    case refine_3 => exact ⟨fun _ => ⟨HB.out.1, Par.below_drewN HB.out.2 1⟩, fun e => Bool.noConfusion e, fun e => Bool.noConfusion e, fun e => Bool.noConfusion e⟩
    case refine_2 =>
      intro x wn hS
      have hBn := hS.2.2.1 rfl
      clear hS
      obtain ⟨x1, x2⟩ := x
      simp only at hBn
      obtain ⟨va, vc, rfl⟩ := hBn.form
      clear HB
      have HB := hidden hBn
      have hbx := HBX.out _ hBn.2
      have q2 := hbx.c2
      clear hBn hbx
      generalize hlen : ([] ++ fours [c.tag] ++ fours [c.win] ++ twos [c.out] ++ twos [c.inn]).length = m at *
      have HLEN := hidden hlen
      clear hlen
      simp only [Ord.puts, Ord.prs, List.filterMap_cons, List.filterMap_nil, Option.map_some, List.foldl_cons, List.foldl_nil]
      go_simp
      go_wp2_with fail
      refine Calls.mono (rPut4 w1 _ _ ([] ++ fours [c.tag] ++ fours [c.win] ++ twos [c.out] ++ twos [c.inn]) HB.out (by simp [fours_len, twos_len]) c.tsn N2.1 N2.2) ?_
      rintro e w3 ⟨v3, rfl, hB3⟩
      obtain ⟨v4, w4, hr4, hB4⟩ := run_apB hB3 pva _ pvc (HPROW.out.later hB3.2) HPN.out (by simp [fours_len, twos_len]; omega) 27
      have HB4 := hidden hB4
      clear hB3 hB4 q2
      go_wp2_with (at_builtin; refine Ord.wpList_val rfl rfl (o_apB _ _ rfl rfl rfl hr4) ?_)
      go_wp2
      go_ret
      exact ⟨w1, _, rfl, HB4.out.eqn HVB.out.symm, HW1.out⟩
set_option maxRecDepth 20000 in
set_option maxHeartbeats 2000000 in
theorem rValue2 (base : Nat) (c : Ck) (w : World) (hc : Chk base w c) (hk : c.kind = 2) (hO : OwnF (val c)) (hp : pcode (c.ps.map Par.val) = 0) (hG : c.gl ≤ 4096) (hN : c.nl ≤ 4096) (hD : c.dl ≤ 4096) (hbm : c.bl ≤ 140737488351232) :
    Calls Tryz.prog 53 #[cv c] w fun e w' => ValR w (vby (val c)) e w' := by
  obtain ⟨i0, hi, hz0, hz1, hz2⟩ := info_parts Par.info5
  have HVB := hidden (show vby (val c) = [] ++ fours [c.tag] ++ fours [c.win] ++ twos [c.out] ++ twos [c.inn] ++ fours [c.tsn] ++ Par.enc (c.ps.map Par.val) from by
    obtain ⟨_, _, _, _, _, _, _, _, _, h8, h9, h10, h11, h12⟩ := hO
    simp only [val, hk] at h8 h9 h10 h11 h12
    simp at h8 h9 h10 h11
    simp [vby, lisB, num, val, hk, h8, h9, h10, h11, gbytes, fours, twos])
  have b1 := Bx.new w c
  have hb := below_box w c
  obtain ⟨⟨N0, N1, N2, N3, N4, N5, N6, N7, N8, N9⟩, hg, hn, hd, hbo, hbn, hprm⟩ := hc.later hb
  have NG : 0 ≤ (c.gl : Int) ∧ (c.gl : Int) < 65536 := by omega
  have NN : 0 ≤ (c.nl : Int) ∧ (c.nl : Int) < 65536 := by omega
  have ND : 0 ≤ (c.dl : Int) ∧ (c.dl : Int) < 65536 := by omega
  have HEN := hidden (Par.rEncode base _ c.pa c.pl c.pc c.ps hprm)
  have HPR := hidden hprm
  have HG := hidden hg
  have HN := hidden hn
  have HD := hidden hd
  have HBO := hidden hbo
  have HBN := hidden hbn
  have HW := hidden hb
  have HX := hidden b1
  have q14 := b1.c14
  clear hprm hg hn hd hbo hbn hb hc
  go_enter Tryz.func53, Tryz.ntmps53
  go_wp2_with fail
  refine Calls.mono HEN.out ?_
  rintro e w1 ⟨pv, cd, rfl, hcd, _, hok, be⟩
  have hcd0 : cd = 0 := (code_val HPR.out.2.2.1 hcd).trans hp
  subst hcd0
  have hlim : (Par.enc (c.ps.map Par.val)).length ≤ 16777728 := by
    rcases hcd with ⟨_, h⟩ | ⟨_, _, h⟩ | ⟨h1, h2, _⟩
    · cases h
    · cases h
    · have := Par.enc_take_le h2 h1 HPR.out.2.2.1 c.ps.length
      rwa [List.take_length] at this
  obtain ⟨pva, pvc, rfl, hprow, hpl, hpm, hpn⟩ := Par.row_own (hok rfl) (enc_by HPR.out) (by omega)
  have HPROW := hidden hprow
  have HPN := hidden hpn
  have HBX := hidden (show ∀ y, Below w1.heap.size w1 y → Bx y w.heap.size c from fun y hy => (HX.out.later be).later hy)
  have HLG := hidden (HG.out.later be)
  have HLN := hidden (HN.out.later be)
  have HLD := hidden (HD.out.later be)
  have HLB := hidden (HBO.out.later be)
  have HW1 := hidden (HW.out.trans (be.mono HW.out.size))
  have HB := hidden (Bd.nil w1)
  have hbx := HBX.out w1 (Below.refl _ _)
  have q0 := hbx.c0
  clear hok hcd hprow hpn hbx q14 be HEN b1
  rw [hk] at q0
  go_wp2_with fail
  refine Ord.wp_region_ex (X := Value × Value) (by kernel_rfl) 147 (fun x => [(some 46, .slice none 0 0), (some 47, .pointer (some ⟨w.heap.size, 6, none⟩)), (some 48, .int .u32 c.tag), (some 49, x.1), (some 50, .pointer (some ⟨w.heap.size, 7, none⟩)), (some 51, .int .u32 c.win), (some 52, x.2), (some 3, x.2)]) [some 46, some 47, some 48, some 49, some 50, some 51, some 52, some 3] rfl (by kernel_rfl) (by rfl) (fun _ => rfl) (by kernel_rfl) (Ord.St 3 6 (fun y => Bd w1 y (.slice none 0 0) ([])) (fun u y => Bd w1 y u ([] ++ fours [c.tag])) (fun u y => Bd w1 y u ([] ++ fours [c.tag] ++ fours [c.win]))) (fun _ _ _ _ hL h => h.ext (n := 8) (by decide) (by decide) hL) ?_ ?_ (undef, undef) ?_
  case refine_1 =>
    intro x L i o ac w' ho hi hcl hdep hF hW
    have hK := hW.all (·.2) (fun _ h => h.2) (fun _ h => h.2)
    have f1' : ac.tmps.size = 147 := hF.1
    match i, ho, hi, hdep with
    | 0, ho, hi, hdep =>
      cases ho
      have hy : L 7 = false := by
        cases hb : L 7 with
        | false => rfl
        | true =>
          have h6 := hcl 7 _ rfl hb ⟨6, .data⟩ (by simp) rfl
          have h3 := hcl 6 _ rfl h6 ⟨3, .data⟩ (by simp) rfl
          have h0 := hcl 3 _ rfl h3 ⟨0, .data⟩ (by simp) rfl
          rw [hi] at h0; cases h0
      have da0 : ac.eval (.tmp 3) = .slice none 0 0 := hF.yet 3 7 (by rfl) hy
      exact Ord.ex_value x rfl rfl (o_mv _ rfl da0) rfl (hW.keep (by decide) (by decide))
    | 1, ho, hi, hdep =>
      cases ho
      have da0 : ac.eval (.tmp 1) = .pointer (some ⟨w.heap.size, 0, none⟩) := hF.old 1 rfl
      exact Ord.ex_value x rfl rfl (e_fa _ da0 rfl (fa6 _ _)) rfl (hW.keep (by decide) (by decide))
    | 2, ho, hi, hdep =>
      cases ho
      have da0 : ac.eval (.tmp 47) = .pointer (some ⟨w.heap.size, 6, none⟩) := hF.2.2.2 1 47 _ rfl (hdep ⟨1, .data⟩ (by simp) rfl)
      exact Ord.ex_value x rfl rfl (e_ld _ da0 rfl (ld32 _ _ _ (HBX.out _ hK).c6)) rfl (hW.keep (by decide) (by decide))
    | 3, ho, hi, hdep =>
      cases ho
      have da0 : ac.eval (.tmp 46) = .slice none 0 0 := hF.2.2.2 0 46 _ rfl (hdep ⟨0, .data⟩ (by simp) rfl)
      have da1 : ac.eval (.tmp 48) = .int .u32 c.tag := hF.2.2.2 2 48 _ rfl (hdep ⟨2, .data⟩ (by simp) rfl)
      refine Ord.ex_call x (fun v => (v, x.2)) rfl rfl (o_put _ _ da0 da1 rfl) (fun _ => rfl) (fun v j hj => match j, hj with | 0, _ => rfl | 1, _ => rfl | 2, _ => rfl | 3, hj => absurd hj (by rw [hi]; decide) | 4, _ => rfl | 5, _ => rfl | 6, _ => rfl | 7, _ => rfl | _ + 8, _ => rfl) (Calls.mono (rPut4 w1 w' _ ([]) (hW.1 hi) (by simp [fours_len, twos_len]) (c.tag) N6.1 N6.2) ?_)
      rintro e w1 ⟨v', rfl, hB⟩
      exact ⟨_, rfl, hW.one (by decide) hi (hB)⟩
    | 4, ho, hi, hdep =>
      cases ho
      have da0 : ac.eval (.tmp 1) = .pointer (some ⟨w.heap.size, 0, none⟩) := hF.old 1 rfl
      exact Ord.ex_value x rfl rfl (e_fa _ da0 rfl (fa7 _ _)) rfl (hW.keep (by decide) (by decide))
    | 5, ho, hi, hdep =>
      cases ho
      have da0 : ac.eval (.tmp 50) = .pointer (some ⟨w.heap.size, 7, none⟩) := hF.2.2.2 4 50 _ rfl (hdep ⟨4, .data⟩ (by simp) rfl)
      exact Ord.ex_value x rfl rfl (e_ld _ da0 rfl (ld32 _ _ _ (HBX.out _ hK).c7)) rfl (hW.keep (by decide) (by decide))
    | 6, ho, hi, hdep =>
      cases ho
      have da0 : ac.eval (.tmp 49) = x.1 := hF.2.2.2 3 49 _ rfl (hdep ⟨3, .data⟩ (by simp) rfl)
      have da1 : ac.eval (.tmp 51) = .int .u32 c.win := hF.2.2.2 5 51 _ rfl (hdep ⟨5, .data⟩ (by simp) rfl)
      refine Ord.ex_call x (fun v => (x.1, v)) rfl rfl (o_put _ _ da0 da1 rfl) (fun _ => rfl) (fun v j hj => match j, hj with | 0, _ => rfl | 1, _ => rfl | 2, _ => rfl | 3, _ => rfl | 4, _ => rfl | 5, _ => rfl | 6, hj => absurd hj (by rw [hi]; decide) | 7, hj => absurd (hcl 7 _ rfl hj ⟨6, .data⟩ (by simp) rfl) (by rw [hi]; decide) | _ + 8, _ => rfl) (Calls.mono (rPut4 w1 w' _ ([] ++ fours [c.tag]) (hW.2.1 (hdep ⟨3, .data⟩ (by simp) rfl) hi) (by simp [fours_len, twos_len]) (c.win) N7.1 N7.2) ?_)
      rintro e w1 ⟨v', rfl, hB⟩
      exact ⟨_, rfl, Ord.St.two (hdep ⟨3, .data⟩ (by simp) rfl) (hB)⟩
    | 7, ho, hi, hdep =>
      cases ho
      have da0 : ac.eval (.tmp 52) = x.2 := hF.2.2.2 6 52 _ rfl (hdep ⟨6, .data⟩ (by simp) rfl)
      exact Ord.ex_value x rfl rfl (o_as _ rfl da0) rfl (hW.keep (by decide) (by decide))
  case refine_3 => exact ⟨fun _ => ⟨HB.out.1, Par.below_drewN HB.out.2 1⟩, fun e => Bool.noConfusion e, fun e => Bool.noConfusion e, fun e => Bool.noConfusion e⟩
  case refine_2 =>
    intro x wn hS
    have hBn := hS.2.2.1 rfl
    clear hS
    obtain ⟨x1, x2⟩ := x
    simp only at hBn
    obtain ⟨va, vc, rfl⟩ := hBn.form
    clear HB
    have HB := hidden hBn
    have hbx := HBX.out _ hBn.2
    
    clear hBn hbx
    generalize hlen : ([] ++ fours [c.tag] ++ fours [c.win]).length = m at *
    have HLEN := hidden hlen
    clear hlen
    simp only [Ord.puts, Ord.prs, List.filterMap_cons, List.filterMap_nil, Option.map_some, List.foldl_cons, List.foldl_nil]
    go_simp
    go_wp2_with fail
    refine Ord.wp_region_ex (X := Value × Value) (by kernel_rfl) 147 (fun x => [(some 53, .slice va m vc), (some 54, .pointer (some ⟨w.heap.size, 8, none⟩)), (some 55, .int .u16 c.out), (some 56, .int .u32 c.out), (some 57, x.1), (some 58, .pointer (some ⟨w.heap.size, 9, none⟩)), (some 59, .int .u16 c.inn), (some 60, .int .u32 c.inn), (some 61, x.2), (some 3, x.2)]) [some 53, some 54, some 55, some 56, some 57, some 58, some 59, some 60, some 61, some 3] rfl (by kernel_rfl) (by rfl) (fun _ => rfl) (by kernel_rfl) (Ord.St 4 8 (fun y => Bd w1 y (.slice va m vc) ([] ++ fours [c.tag] ++ fours [c.win])) (fun u y => Bd w1 y u ([] ++ fours [c.tag] ++ fours [c.win] ++ twos [c.out])) (fun u y => Bd w1 y u ([] ++ fours [c.tag] ++ fours [c.win] ++ twos [c.out] ++ twos [c.inn]))) (fun _ _ _ _ hL h => h.ext (n := 10) (by decide) (by decide) hL) ?_ ?_ (undef, undef) ?_
    case refine_1 =>
      intro x L i o ac w' ho hi hcl hdep hF hW
      have hK := hW.all (·.2) (fun _ h => h.2) (fun _ h => h.2)
      have f1' : ac.tmps.size = 147 := hF.1
      match i, ho, hi, hdep with
      | 0, ho, hi, hdep =>
        cases ho
        have hy : L 9 = false := by
          cases hb : L 9 with
          | false => rfl
          | true =>
            have h8 := hcl 9 _ rfl hb ⟨8, .data⟩ (by simp) rfl
            have h4 := hcl 8 _ rfl h8 ⟨4, .data⟩ (by simp) rfl
            have h0 := hcl 4 _ rfl h4 ⟨0, .data⟩ (by simp) rfl
            rw [hi] at h0; cases h0
        have da0 : ac.eval (.tmp 3) = .slice va m vc := hF.yet 3 9 (by rfl) hy
        exact Ord.ex_value x rfl rfl (o_mv _ rfl da0) rfl (hW.keep (by decide) (by decide))
      | 1, ho, hi, hdep =>
        cases ho
        have da0 : ac.eval (.tmp 1) = .pointer (some ⟨w.heap.size, 0, none⟩) := hF.old 1 rfl
        exact Ord.ex_value x rfl rfl (e_fa _ da0 rfl (fa8 _ _)) rfl (hW.keep (by decide) (by decide))
      | 2, ho, hi, hdep =>
        cases ho
        have da0 : ac.eval (.tmp 54) = .pointer (some ⟨w.heap.size, 8, none⟩) := hF.2.2.2 1 54 _ rfl (hdep ⟨1, .data⟩ (by simp) rfl)
        exact Ord.ex_value x rfl rfl (e_ld _ da0 rfl (ld16 _ _ _ (HBX.out _ hK).c8)) rfl (hW.keep (by decide) (by decide))
      | 3, ho, hi, hdep =>
        cases ho
        have da0 : ac.eval (.tmp 55) = .int .u16 c.out := hF.2.2.2 2 55 _ rfl (hdep ⟨2, .data⟩ (by simp) rfl)
        exact Ord.ex_value x rfl rfl (o_cv _ da0 N8 rfl) rfl (hW.keep (by decide) (by decide))
      | 4, ho, hi, hdep =>
        cases ho
        have da0 : ac.eval (.tmp 53) = .slice va m vc := hF.2.2.2 0 53 _ rfl (hdep ⟨0, .data⟩ (by simp) rfl)
        have da1 : ac.eval (.tmp 56) = .int .u32 c.out := hF.2.2.2 3 56 _ rfl (hdep ⟨3, .data⟩ (by simp) rfl)
        refine Ord.ex_call x (fun v => (v, x.2)) rfl rfl (o_put _ _ da0 da1 rfl) (fun _ => rfl) (fun v j hj => match j, hj with | 0, _ => rfl | 1, _ => rfl | 2, _ => rfl | 3, _ => rfl | 4, hj => absurd hj (by rw [hi]; decide) | 5, _ => rfl | 6, _ => rfl | 7, _ => rfl | 8, _ => rfl | 9, _ => rfl | _ + 10, _ => rfl) (Calls.mono (rPut2 w1 w' _ ([] ++ fours [c.tag] ++ fours [c.win]) (hW.1 hi) (by simp [fours_len, twos_len]) (c.out) N8.1 N8.2) ?_)
        rintro e w1 ⟨v', rfl, hB⟩
        exact ⟨_, rfl, hW.one (by decide) hi (hB)⟩
      | 5, ho, hi, hdep =>
        cases ho
        have da0 : ac.eval (.tmp 1) = .pointer (some ⟨w.heap.size, 0, none⟩) := hF.old 1 rfl
        exact Ord.ex_value x rfl rfl (e_fa _ da0 rfl (fa9 _ _)) rfl (hW.keep (by decide) (by decide))
      | 6, ho, hi, hdep =>
        cases ho
        have da0 : ac.eval (.tmp 58) = .pointer (some ⟨w.heap.size, 9, none⟩) := hF.2.2.2 5 58 _ rfl (hdep ⟨5, .data⟩ (by simp) rfl)
        exact Ord.ex_value x rfl rfl (e_ld _ da0 rfl (ld16 _ _ _ (HBX.out _ hK).c9)) rfl (hW.keep (by decide) (by decide))
      | 7, ho, hi, hdep =>
        cases ho
        have da0 : ac.eval (.tmp 59) = .int .u16 c.inn := hF.2.2.2 6 59 _ rfl (hdep ⟨6, .data⟩ (by simp) rfl)
        exact Ord.ex_value x rfl rfl (o_cv _ da0 N9 rfl) rfl (hW.keep (by decide) (by decide))
      | 8, ho, hi, hdep =>
        cases ho
        have da0 : ac.eval (.tmp 57) = x.1 := hF.2.2.2 4 57 _ rfl (hdep ⟨4, .data⟩ (by simp) rfl)
        have da1 : ac.eval (.tmp 60) = .int .u32 c.inn := hF.2.2.2 7 60 _ rfl (hdep ⟨7, .data⟩ (by simp) rfl)
        refine Ord.ex_call x (fun v => (x.1, v)) rfl rfl (o_put _ _ da0 da1 rfl) (fun _ => rfl) (fun v j hj => match j, hj with | 0, _ => rfl | 1, _ => rfl | 2, _ => rfl | 3, _ => rfl | 4, _ => rfl | 5, _ => rfl | 6, _ => rfl | 7, _ => rfl | 8, hj => absurd hj (by rw [hi]; decide) | 9, hj => absurd (hcl 9 _ rfl hj ⟨8, .data⟩ (by simp) rfl) (by rw [hi]; decide) | _ + 10, _ => rfl) (Calls.mono (rPut2 w1 w' _ ([] ++ fours [c.tag] ++ fours [c.win] ++ twos [c.out]) (hW.2.1 (hdep ⟨4, .data⟩ (by simp) rfl) hi) (by simp [fours_len, twos_len]) (c.inn) N9.1 N9.2) ?_)
        rintro e w1 ⟨v', rfl, hB⟩
        exact ⟨_, rfl, Ord.St.two (hdep ⟨4, .data⟩ (by simp) rfl) (hB)⟩
      | 9, ho, hi, hdep =>
        cases ho
        have da0 : ac.eval (.tmp 61) = x.2 := hF.2.2.2 8 61 _ rfl (hdep ⟨8, .data⟩ (by simp) rfl)
        exact Ord.ex_value x rfl rfl (o_as _ rfl da0) rfl (hW.keep (by decide) (by decide))
    case refine_3 => exact ⟨fun _ => ⟨HB.out.1, Par.below_drewN HB.out.2 1⟩, fun e => Bool.noConfusion e, fun e => Bool.noConfusion e, fun e => Bool.noConfusion e⟩
    case refine_2 =>
      intro x wn hS
      have hBn := hS.2.2.1 rfl
      clear hS
      obtain ⟨x1, x2⟩ := x
      simp only at hBn
      obtain ⟨va, vc, rfl⟩ := hBn.form
      clear HB
      have HB := hidden hBn
      have hbx := HBX.out _ hBn.2
      have q2 := hbx.c2
      clear hBn hbx
      generalize hlen : ([] ++ fours [c.tag] ++ fours [c.win] ++ twos [c.out] ++ twos [c.inn]).length = m at *
      have HLEN := hidden hlen
      clear hlen
      simp only [Ord.puts, Ord.prs, List.filterMap_cons, List.filterMap_nil, Option.map_some, List.foldl_cons, List.foldl_nil]
      go_simp
      go_wp2_with fail
      refine Calls.mono (rPut4 w1 _ _ ([] ++ fours [c.tag] ++ fours [c.win] ++ twos [c.out] ++ twos [c.inn]) HB.out (by simp [fours_len, twos_len]) c.tsn N2.1 N2.2) ?_
      rintro e w3 ⟨v3, rfl, hB3⟩
      obtain ⟨v4, w4, hr4, hB4⟩ := run_apB hB3 pva _ pvc (HPROW.out.later hB3.2) HPN.out (by simp [fours_len, twos_len]; omega) 27
      have HB4 := hidden hB4
      clear hB3 hB4 q2
      go_wp2_with (at_builtin; refine Ord.wpList_val rfl rfl (o_apB _ _ rfl rfl rfl hr4) ?_)
      go_wp2
      go_ret
      exact ⟨w1, _, rfl, HB4.out.eqn HVB.out.symm, HW1.out⟩
set_option maxRecDepth 20000 in
set_option maxHeartbeats 2000000 in
theorem rValue3 (base : Nat) (c : Ck) (w : World) (hc : Chk base w c) (hk : c.kind = 3) (hO : OwnF (val c)) (hp : pcode (c.ps.map Par.val) = 0) (hG : c.gl ≤ 4096) (hN : c.nl ≤ 4096) (hD : c.dl ≤ 4096) (hbm : c.bl ≤ 140737488351232) :
    Calls Tryz.prog 53 #[cv c] w fun e w' => ValR w (vby (val c)) e w' := by
  obtain ⟨i0, hi, hz0, hz1, hz2⟩ := info_parts Par.info5
  have HVB := hidden (show vby (val c) = [] ++ fours [c.tsn] ++ fours [c.win] ++ twos [(c.gl : Int)] ++ twos [(c.dl : Int)] ++ gbytes c.gs ++ fours c.ds from by
    have e1 : c.gs.length = c.gl := hc.2.1.1
    have e2 : c.ds.length = c.dl := hc.2.2.2.1.1

    obtain ⟨_, _, _, _, _, _, _, _, _, h8, h9, h10, h11, h12⟩ := hO
    simp only [val, hk] at h8 h9 h10 h11 h12
    simp at h9 h11 h12
    simp [vby, lisB, num, val, hk, h9, h11, h12, gbytes, fours, twos, e1, e2, Par.enc])
  have b1 := Bx.new w c
  have hb := below_box w c
  obtain ⟨⟨N0, N1, N2, N3, N4, N5, N6, N7, N8, N9⟩, hg, hn, hd, hbo, hbn, hprm⟩ := hc.later hb
  have NG : 0 ≤ (c.gl : Int) ∧ (c.gl : Int) < 65536 := by omega
  have NN : 0 ≤ (c.nl : Int) ∧ (c.nl : Int) < 65536 := by omega
  have ND : 0 ≤ (c.dl : Int) ∧ (c.dl : Int) < 65536 := by omega
  have HEN := hidden (Par.rEncode base _ c.pa c.pl c.pc c.ps hprm)
  have HPR := hidden hprm
  have HG := hidden hg
  have HN := hidden hn
  have HD := hidden hd
  have HBO := hidden hbo
  have HBN := hidden hbn
  have HW := hidden hb
  have HX := hidden b1
  have q14 := b1.c14
  clear hprm hg hn hd hbo hbn hb hc
  go_enter Tryz.func53, Tryz.ntmps53
  go_wp2_with fail
  refine Calls.mono HEN.out ?_
  rintro e w1 ⟨pv, cd, rfl, hcd, _, hok, be⟩
  have hcd0 : cd = 0 := (code_val HPR.out.2.2.1 hcd).trans hp
  subst hcd0
  have hlim : (Par.enc (c.ps.map Par.val)).length ≤ 16777728 := by
    rcases hcd with ⟨_, h⟩ | ⟨_, _, h⟩ | ⟨h1, h2, _⟩
    · cases h
    · cases h
    · have := Par.enc_take_le h2 h1 HPR.out.2.2.1 c.ps.length
      rwa [List.take_length] at this
  obtain ⟨pva, pvc, rfl, hprow, hpl, hpm, hpn⟩ := Par.row_own (hok rfl) (enc_by HPR.out) (by omega)
  have HPROW := hidden hprow
  have HPN := hidden hpn
  have HBX := hidden (show ∀ y, Below w1.heap.size w1 y → Bx y w.heap.size c from fun y hy => (HX.out.later be).later hy)
  have HLG := hidden (HG.out.later be)
  have HLN := hidden (HN.out.later be)
  have HLD := hidden (HD.out.later be)
  have HLB := hidden (HBO.out.later be)
  have HW1 := hidden (HW.out.trans (be.mono HW.out.size))
  have HB := hidden (Bd.nil w1)
  have hbx := HBX.out w1 (Below.refl _ _)
  have q0 := hbx.c0
  clear hok hcd hprow hpn hbx q14 be HEN b1
  rw [hk] at q0
  go_wp2_with fail
  refine Ord.wp_region_ex (X := Value × Value) (by kernel_rfl) 147 (fun x => [(some 70, .slice none 0 0), (some 71, .pointer (some ⟨w.heap.size, 2, none⟩)), (some 72, .int .u32 c.tsn), (some 73, x.1), (some 74, .pointer (some ⟨w.heap.size, 7, none⟩)), (some 75, .int .u32 c.win), (some 76, x.2), (some 3, x.2)]) [some 70, some 71, some 72, some 73, some 74, some 75, some 76, some 3] rfl (by kernel_rfl) (by rfl) (fun _ => rfl) (by kernel_rfl) (Ord.St 3 6 (fun y => Bd w1 y (.slice none 0 0) ([])) (fun u y => Bd w1 y u ([] ++ fours [c.tsn])) (fun u y => Bd w1 y u ([] ++ fours [c.tsn] ++ fours [c.win]))) (fun _ _ _ _ hL h => h.ext (n := 8) (by decide) (by decide) hL) ?_ ?_ (undef, undef) ?_
  case refine_1 =>
    intro x L i o ac w' ho hi hcl hdep hF hW
    have hK := hW.all (·.2) (fun _ h => h.2) (fun _ h => h.2)
    have f1' : ac.tmps.size = 147 := hF.1
    match i, ho, hi, hdep with
    | 0, ho, hi, hdep =>
      cases ho
      have hy : L 7 = false := by
        cases hb : L 7 with
        | false => rfl
        | true =>
          have h6 := hcl 7 _ rfl hb ⟨6, .data⟩ (by simp) rfl
          have h3 := hcl 6 _ rfl h6 ⟨3, .data⟩ (by simp) rfl
          have h0 := hcl 3 _ rfl h3 ⟨0, .data⟩ (by simp) rfl
          rw [hi] at h0; cases h0
      have da0 : ac.eval (.tmp 3) = .slice none 0 0 := hF.yet 3 7 (by rfl) hy
      exact Ord.ex_value x rfl rfl (o_mv _ rfl da0) rfl (hW.keep (by decide) (by decide))
    | 1, ho, hi, hdep =>
      cases ho
      have da0 : ac.eval (.tmp 1) = .pointer (some ⟨w.heap.size, 0, none⟩) := hF.old 1 rfl
      exact Ord.ex_value x rfl rfl (e_fa _ da0 rfl (fa2 _ _)) rfl (hW.keep (by decide) (by decide))
    | 2, ho, hi, hdep =>
      cases ho
      have da0 : ac.eval (.tmp 71) = .pointer (some ⟨w.heap.size, 2, none⟩) := hF.2.2.2 1 71 _ rfl (hdep ⟨1, .data⟩ (by simp) rfl)
      exact Ord.ex_value x rfl rfl (e_ld _ da0 rfl (ld32 _ _ _ (HBX.out _ hK).c2)) rfl (hW.keep (by decide) (by decide))
    | 3, ho, hi, hdep =>
      cases ho
      have da0 : ac.eval (.tmp 70) = .slice none 0 0 := hF.2.2.2 0 70 _ rfl (hdep ⟨0, .data⟩ (by simp) rfl)
      have da1 : ac.eval (.tmp 72) = .int .u32 c.tsn := hF.2.2.2 2 72 _ rfl (hdep ⟨2, .data⟩ (by simp) rfl)
      refine Ord.ex_call x (fun v => (v, x.2)) rfl rfl (o_put _ _ da0 da1 rfl) (fun _ => rfl) (fun v j hj => match j, hj with | 0, _ => rfl | 1, _ => rfl | 2, _ => rfl | 3, hj => absurd hj (by rw [hi]; decide) | 4, _ => rfl | 5, _ => rfl | 6, _ => rfl | 7, _ => rfl | _ + 8, _ => rfl) (Calls.mono (rPut4 w1 w' _ ([]) (hW.1 hi) (by simp [fours_len, twos_len]) (c.tsn) N2.1 N2.2) ?_)
      rintro e w1 ⟨v', rfl, hB⟩
      exact ⟨_, rfl, hW.one (by decide) hi (hB)⟩
    | 4, ho, hi, hdep =>
      cases ho
      have da0 : ac.eval (.tmp 1) = .pointer (some ⟨w.heap.size, 0, none⟩) := hF.old 1 rfl
      exact Ord.ex_value x rfl rfl (e_fa _ da0 rfl (fa7 _ _)) rfl (hW.keep (by decide) (by decide))
    | 5, ho, hi, hdep =>
      cases ho
      have da0 : ac.eval (.tmp 74) = .pointer (some ⟨w.heap.size, 7, none⟩) := hF.2.2.2 4 74 _ rfl (hdep ⟨4, .data⟩ (by simp) rfl)
      exact Ord.ex_value x rfl rfl (e_ld _ da0 rfl (ld32 _ _ _ (HBX.out _ hK).c7)) rfl (hW.keep (by decide) (by decide))
    | 6, ho, hi, hdep =>
      cases ho
      have da0 : ac.eval (.tmp 73) = x.1 := hF.2.2.2 3 73 _ rfl (hdep ⟨3, .data⟩ (by simp) rfl)
      have da1 : ac.eval (.tmp 75) = .int .u32 c.win := hF.2.2.2 5 75 _ rfl (hdep ⟨5, .data⟩ (by simp) rfl)
      refine Ord.ex_call x (fun v => (x.1, v)) rfl rfl (o_put _ _ da0 da1 rfl) (fun _ => rfl) (fun v j hj => match j, hj with | 0, _ => rfl | 1, _ => rfl | 2, _ => rfl | 3, _ => rfl | 4, _ => rfl | 5, _ => rfl | 6, hj => absurd hj (by rw [hi]; decide) | 7, hj => absurd (hcl 7 _ rfl hj ⟨6, .data⟩ (by simp) rfl) (by rw [hi]; decide) | _ + 8, _ => rfl) (Calls.mono (rPut4 w1 w' _ ([] ++ fours [c.tsn]) (hW.2.1 (hdep ⟨3, .data⟩ (by simp) rfl) hi) (by simp [fours_len, twos_len]) (c.win) N7.1 N7.2) ?_)
      rintro e w1 ⟨v', rfl, hB⟩
      exact ⟨_, rfl, Ord.St.two (hdep ⟨3, .data⟩ (by simp) rfl) (hB)⟩
    | 7, ho, hi, hdep =>
      cases ho
      have da0 : ac.eval (.tmp 76) = x.2 := hF.2.2.2 6 76 _ rfl (hdep ⟨6, .data⟩ (by simp) rfl)
      exact Ord.ex_value x rfl rfl (o_as _ rfl da0) rfl (hW.keep (by decide) (by decide))
  case refine_3 => exact ⟨fun _ => ⟨HB.out.1, Par.below_drewN HB.out.2 1⟩, fun e => Bool.noConfusion e, fun e => Bool.noConfusion e, fun e => Bool.noConfusion e⟩
  case refine_2 =>
    intro x wn hS
    have hBn := hS.2.2.1 rfl
    clear hS
    obtain ⟨x1, x2⟩ := x
    simp only at hBn
    obtain ⟨va, vc, rfl⟩ := hBn.form
    clear HB
    have HB := hidden hBn
    have hbx := HBX.out _ hBn.2
    
    clear hBn hbx
    generalize hlen : ([] ++ fours [c.tsn] ++ fours [c.win]).length = m at *
    have HLEN := hidden hlen
    clear hlen
    simp only [Ord.puts, Ord.prs, List.filterMap_cons, List.filterMap_nil, Option.map_some, List.foldl_cons, List.foldl_nil]
    go_simp
    go_wp2_with fail
    refine Ord.wp_region_ex (X := Value × Value) (by kernel_rfl) 147 (fun x => [(some 77, .slice va m vc), (some 78, .pointer (some ⟨w.heap.size, 10, none⟩)), (some 79, .slice c.ga c.gl c.gc), (some 80, .int .i64 (c.gl : Int)), (some 81, .int .u32 (c.gl : Int)), (some 82, x.1), (some 83, .pointer (some ⟨w.heap.size, 12, none⟩)), (some 84, .slice c.da c.dl c.dc), (some 85, .int .i64 (c.dl : Int)), (some 86, .int .u32 (c.dl : Int)), (some 87, x.2), (some 3, x.2)]) [some 77, some 78, some 79, some 80, some 81, some 82, some 83, some 84, some 85, some 86, some 87, some 3] rfl (by kernel_rfl) (by rfl) (fun _ => rfl) (by kernel_rfl) (Ord.St 5 10 (fun y => Bd w1 y (.slice va m vc) ([] ++ fours [c.tsn] ++ fours [c.win])) (fun u y => Bd w1 y u ([] ++ fours [c.tsn] ++ fours [c.win] ++ twos [(c.gl : Int)])) (fun u y => Bd w1 y u ([] ++ fours [c.tsn] ++ fours [c.win] ++ twos [(c.gl : Int)] ++ twos [(c.dl : Int)]))) (fun _ _ _ _ hL h => h.ext (n := 12) (by decide) (by decide) hL) ?_ ?_ (undef, undef) ?_
    case refine_1 =>
      intro x L i o ac w' ho hi hcl hdep hF hW
      have hK := hW.all (·.2) (fun _ h => h.2) (fun _ h => h.2)
      have f1' : ac.tmps.size = 147 := hF.1
      match i, ho, hi, hdep with
      | 0, ho, hi, hdep =>
        cases ho
        have hy : L 11 = false := by
          cases hb : L 11 with
          | false => rfl
          | true =>
            have h10 := hcl 11 _ rfl hb ⟨10, .data⟩ (by simp) rfl
            have h5 := hcl 10 _ rfl h10 ⟨5, .data⟩ (by simp) rfl
            have h0 := hcl 5 _ rfl h5 ⟨0, .data⟩ (by simp) rfl
            rw [hi] at h0; cases h0
        have da0 : ac.eval (.tmp 3) = .slice va m vc := hF.yet 3 11 (by rfl) hy
        exact Ord.ex_value x rfl rfl (o_mv _ rfl da0) rfl (hW.keep (by decide) (by decide))
      | 1, ho, hi, hdep =>
        cases ho
        have da0 : ac.eval (.tmp 1) = .pointer (some ⟨w.heap.size, 0, none⟩) := hF.old 1 rfl
        exact Ord.ex_value x rfl rfl (e_fa _ da0 rfl (fa10 _ _)) rfl (hW.keep (by decide) (by decide))
      | 2, ho, hi, hdep =>
        cases ho
        have da0 : ac.eval (.tmp 78) = .pointer (some ⟨w.heap.size, 10, none⟩) := hF.2.2.2 1 78 _ rfl (hdep ⟨1, .data⟩ (by simp) rfl)
        exact Ord.ex_value x rfl rfl (e_ld _ da0 rfl (ldG _ _ _ _ _ (HBX.out _ hK).c10)) rfl (hW.keep (by decide) (by decide))
      | 3, ho, hi, hdep =>
        cases ho
        have da0 : ac.eval (.tmp 79) = .slice c.ga c.gl c.gc := hF.2.2.2 2 79 _ rfl (hdep ⟨2, .data⟩ (by simp) rfl)
        exact Ord.ex_value x rfl rfl (o_len (lenG _ _ _ _) _ da0 rfl) rfl (hW.keep (by decide) (by decide))
      | 4, ho, hi, hdep =>
        cases ho
        have da0 : ac.eval (.tmp 80) = .int .i64 (c.gl : Int) := hF.2.2.2 3 80 _ rfl (hdep ⟨3, .data⟩ (by simp) rfl)
        exact Ord.ex_value x rfl rfl (o_cl _ da0 (by omega) rfl) rfl (hW.keep (by decide) (by decide))
      | 5, ho, hi, hdep =>
        cases ho
        have da0 : ac.eval (.tmp 77) = .slice va m vc := hF.2.2.2 0 77 _ rfl (hdep ⟨0, .data⟩ (by simp) rfl)
        have da1 : ac.eval (.tmp 81) = .int .u32 (c.gl : Int) := hF.2.2.2 4 81 _ rfl (hdep ⟨4, .data⟩ (by simp) rfl)
        refine Ord.ex_call x (fun v => (v, x.2)) rfl rfl (o_put _ _ da0 da1 rfl) (fun _ => rfl) (fun v j hj => match j, hj with | 0, _ => rfl | 1, _ => rfl | 2, _ => rfl | 3, _ => rfl | 4, _ => rfl | 5, hj => absurd hj (by rw [hi]; decide) | 6, _ => rfl | 7, _ => rfl | 8, _ => rfl | 9, _ => rfl | 10, _ => rfl | 11, _ => rfl | _ + 12, _ => rfl) (Calls.mono (rPut2 w1 w' _ ([] ++ fours [c.tsn] ++ fours [c.win]) (hW.1 hi) (by simp [fours_len, twos_len]) ((c.gl : Int)) NG.1 NG.2) ?_)
        rintro e w1 ⟨v', rfl, hB⟩
        exact ⟨_, rfl, hW.one (by decide) hi (hB)⟩
      | 6, ho, hi, hdep =>
        cases ho
        have da0 : ac.eval (.tmp 1) = .pointer (some ⟨w.heap.size, 0, none⟩) := hF.old 1 rfl
        exact Ord.ex_value x rfl rfl (e_fa _ da0 rfl (fa12 _ _)) rfl (hW.keep (by decide) (by decide))
      | 7, ho, hi, hdep =>
        cases ho
        have da0 : ac.eval (.tmp 83) = .pointer (some ⟨w.heap.size, 12, none⟩) := hF.2.2.2 6 83 _ rfl (hdep ⟨6, .data⟩ (by simp) rfl)
        exact Ord.ex_value x rfl rfl (e_ld _ da0 rfl (ldD _ _ _ _ _ (HBX.out _ hK).c12)) rfl (hW.keep (by decide) (by decide))
      | 8, ho, hi, hdep =>
        cases ho
        have da0 : ac.eval (.tmp 84) = .slice c.da c.dl c.dc := hF.2.2.2 7 84 _ rfl (hdep ⟨7, .data⟩ (by simp) rfl)
        exact Ord.ex_value x rfl rfl (o_len (lenD _ _ _ _) _ da0 rfl) rfl (hW.keep (by decide) (by decide))
      | 9, ho, hi, hdep =>
        cases ho
        have da0 : ac.eval (.tmp 85) = .int .i64 (c.dl : Int) := hF.2.2.2 8 85 _ rfl (hdep ⟨8, .data⟩ (by simp) rfl)
        exact Ord.ex_value x rfl rfl (o_cl _ da0 (by omega) rfl) rfl (hW.keep (by decide) (by decide))
      | 10, ho, hi, hdep =>
        cases ho
        have da0 : ac.eval (.tmp 82) = x.1 := hF.2.2.2 5 82 _ rfl (hdep ⟨5, .data⟩ (by simp) rfl)
        have da1 : ac.eval (.tmp 86) = .int .u32 (c.dl : Int) := hF.2.2.2 9 86 _ rfl (hdep ⟨9, .data⟩ (by simp) rfl)
        refine Ord.ex_call x (fun v => (x.1, v)) rfl rfl (o_put _ _ da0 da1 rfl) (fun _ => rfl) (fun v j hj => match j, hj with | 0, _ => rfl | 1, _ => rfl | 2, _ => rfl | 3, _ => rfl | 4, _ => rfl | 5, _ => rfl | 6, _ => rfl | 7, _ => rfl | 8, _ => rfl | 9, _ => rfl | 10, hj => absurd hj (by rw [hi]; decide) | 11, hj => absurd (hcl 11 _ rfl hj ⟨10, .data⟩ (by simp) rfl) (by rw [hi]; decide) | _ + 12, _ => rfl) (Calls.mono (rPut2 w1 w' _ ([] ++ fours [c.tsn] ++ fours [c.win] ++ twos [(c.gl : Int)]) (hW.2.1 (hdep ⟨5, .data⟩ (by simp) rfl) hi) (by simp [fours_len, twos_len]) ((c.dl : Int)) ND.1 ND.2) ?_)
        rintro e w1 ⟨v', rfl, hB⟩
        exact ⟨_, rfl, Ord.St.two (hdep ⟨5, .data⟩ (by simp) rfl) (hB)⟩
      | 11, ho, hi, hdep =>
        cases ho
        have da0 : ac.eval (.tmp 87) = x.2 := hF.2.2.2 10 87 _ rfl (hdep ⟨10, .data⟩ (by simp) rfl)
        exact Ord.ex_value x rfl rfl (o_as _ rfl da0) rfl (hW.keep (by decide) (by decide))
    case refine_3 => exact ⟨fun _ => ⟨HB.out.1, Par.below_drewN HB.out.2 1⟩, fun e => Bool.noConfusion e, fun e => Bool.noConfusion e, fun e => Bool.noConfusion e⟩
    case refine_2 =>
      intro x wn hS
      have hBn := hS.2.2.1 rfl
      clear hS
      obtain ⟨x1, x2⟩ := x
      simp only at hBn
      obtain ⟨va, vc, rfl⟩ := hBn.form
      clear HB
      have HB := hidden hBn
      have hbx := HBX.out _ hBn.2
      have q10 := hbx.c10
      clear hBn hbx
      generalize hlen : ([] ++ fours [c.tsn] ++ fours [c.win] ++ twos [(c.gl : Int)] ++ twos [(c.dl : Int)]).length = m at *
      have HLEN := hidden hlen
      clear hlen
      simp only [Ord.puts, Ord.prs, List.filterMap_cons, List.filterMap_nil, Option.map_some, List.foldl_cons, List.foldl_nil]
      go_simp
      have HGL := hidden HLG.out.1
      have HNL := hidden HLN.out.1
      go_wp2_with fail
      refine Calls.mono (rGaps w1 _ base _ ([] ++ fours [c.tsn] ++ fours [c.win] ++ twos [(c.gl : Int)] ++ twos [(c.dl : Int)]) HB.out (by simp [fours_len, twos_len]) c.ga c.gl c.gc c.gs HLG.out hG) ?_
      rintro e w3 ⟨v3, rfl, hB3⟩
      clear HB q10
      have HB := hidden hB3
      clear hB3
      go_wp2_with fail
      go_loopw [3, 6] (fun v i wr => ∃ k : Nat, k ≤ c.dl ∧ i = .int .i64 k ∧ Bd w1 wr v ([] ++ fours [c.tsn] ++ fours [c.win] ++ twos [(c.gl : Int)] ++ twos [(c.dl : Int)] ++ gbytes c.gs ++ fours (c.ds.take k))) (fun _ i _ => c.dl - (intOf i).toNat)
      case atStart => exact ⟨0, Nat.zero_le _, rfl, by simpa [fours] using HB.out⟩
      case round =>
        obtain ⟨k, hk9, rfl, hb9⟩ := hrel
        have q12 := (HBX.out _ hb9.2).c12
        obtain ⟨va9, vc9, rfl⟩ := hb9.form
        have hdsl := HLD.out.1
        have HLEN9 := hidden (show ([] ++ fours [c.tsn] ++ fours [c.win] ++ twos [(c.gl : Int)] ++ twos [(c.dl : Int)] ++ gbytes c.gs ++ fours (c.ds.take k)).length = 12 + 4 * c.gl + 4 * k by rw [List.length_append, fours_len, List.length_take, hdsl, Nat.min_eq_left hk9]; simp [fours_len, twos_len, gbytes_len, HGL.out, HNL.out] <;> omega)
        generalize hm9 : ([] ++ fours [c.tsn] ++ fours [c.win] ++ twos [(c.gl : Int)] ++ twos [(c.dl : Int)] ++ gbytes c.gs ++ fours (c.ds.take k)).length = m9 at *
        have HM9 := hidden hm9
        clear hm9
        have HB9 := hidden hb9
        clear hb9
        rcases Nat.lt_or_ge k c.dl with hlt | hge
        · obtain ⟨b, off, d, hda, hdk, hcell, hbd⟩ := HLD.out.get hlt
          have hcell9 := (HB9.out.2.cell (cell_lt hcell)).trans hcell
          rw [hda] at q12
          have HSN := hidden (fours_snoc hdk)
          have hlt2 : (k : Int) < (c.dl : Int) := by omega
          clear hdk hcell hda
          go_wp2_with fail
          refine Calls.mono (rPut4 w1 _ _ ([] ++ fours [c.tsn] ++ fours [c.win] ++ twos [(c.gl : Int)] ++ twos [(c.dl : Int)] ++ gbytes c.gs ++ fours (c.ds.take k)) HB9.out (by rw [HM9.out, HLEN9.out]; omega) d hbd.1 hbd.2) ?_
          rintro e w9 ⟨v9, rfl, hB9⟩
          have HB10 := hidden hB9
          clear hB9
          go_wp2
          go_roundw
          case rel => exact ⟨k + 1, by omega, by go_num, HB10.out.eqn (by rw [HSN.out]; simp [fours])⟩
          case measure => simp [intOf]; omega
        · obtain rfl : c.dl = k := by omega
          have HF := hidden (show c.ds.take c.dl = c.ds from List.take_of_length_le (by omega))
          go_wp2
          go_ret
          exact ⟨w1, _, rfl, HB9.out.eqn (by rw [HVB.out, HF.out]), HW1.out⟩
set_option maxRecDepth 20000 in
set_option maxHeartbeats 2000000 in
theorem rValue16 (base : Nat) (c : Ck) (w : World) (hc : Chk base w c) (hk : c.kind = 16) (hO : OwnF (val c)) (hp : pcode (c.ps.map Par.val) = 0) (hG : c.gl ≤ 4096) (hN : c.nl ≤ 4096) (hD : c.dl ≤ 4096) (hbm : c.bl ≤ 140737488351232) :
    Calls Tryz.prog 53 #[cv c] w fun e w' => ValR w (vby (val c)) e w' := by
  obtain ⟨i0, hi, hz0, hz1, hz2⟩ := info_parts Par.info5
  have HVB := hidden (show vby (val c) = [] ++ fours [c.tsn] ++ fours [c.win] ++ twos [(c.gl : Int)] ++ twos [(c.nl : Int)] ++ twos [(c.dl : Int)] ++ twos [0] ++ gbytes c.gs ++ gbytes c.ns ++ fours c.ds from by
    have e1 : c.gs.length = c.gl := hc.2.1.1
    have e2 : c.ds.length = c.dl := hc.2.2.2.1.1
    have e3 : c.ns.length = c.nl := hc.2.2.1.1

    obtain ⟨_, _, _, _, _, _, _, _, _, h8, h9, h10, h11, h12⟩ := hO
    simp only [val, hk] at h8 h9 h10 h11 h12
    simp at h11 h12
    simp [vby, lisB, num, val, hk, h11, h12, gbytes, fours, twos, e1, e2, e3, Par.enc])
  have b1 := Bx.new w c
  have hb := below_box w c
  obtain ⟨⟨N0, N1, N2, N3, N4, N5, N6, N7, N8, N9⟩, hg, hn, hd, hbo, hbn, hprm⟩ := hc.later hb
  have NG : 0 ≤ (c.gl : Int) ∧ (c.gl : Int) < 65536 := by omega
  have NN : 0 ≤ (c.nl : Int) ∧ (c.nl : Int) < 65536 := by omega
  have ND : 0 ≤ (c.dl : Int) ∧ (c.dl : Int) < 65536 := by omega
  have HEN := hidden (Par.rEncode base _ c.pa c.pl c.pc c.ps hprm)
  have HPR := hidden hprm
  have HG := hidden hg
  have HN := hidden hn
  have HD := hidden hd
  have HBO := hidden hbo
  have HBN := hidden hbn
  have HW := hidden hb
  have HX := hidden b1
  have q14 := b1.c14
  clear hprm hg hn hd hbo hbn hb hc
  go_enter Tryz.func53, Tryz.ntmps53
  go_wp2_with fail
  refine Calls.mono HEN.out ?_
  rintro e w1 ⟨pv, cd, rfl, hcd, _, hok, be⟩
  have hcd0 : cd = 0 := (code_val HPR.out.2.2.1 hcd).trans hp
  subst hcd0
  have hlim : (Par.enc (c.ps.map Par.val)).length ≤ 16777728 := by
    rcases hcd with ⟨_, h⟩ | ⟨_, _, h⟩ | ⟨h1, h2, _⟩
    · cases h
    · cases h
    · have := Par.enc_take_le h2 h1 HPR.out.2.2.1 c.ps.length
      rwa [List.take_length] at this
  obtain ⟨pva, pvc, rfl, hprow, hpl, hpm, hpn⟩ := Par.row_own (hok rfl) (enc_by HPR.out) (by omega)
  have HPROW := hidden hprow
  have HPN := hidden hpn
  have HBX := hidden (show ∀ y, Below w1.heap.size w1 y → Bx y w.heap.size c from fun y hy => (HX.out.later be).later hy)
  have HLG := hidden (HG.out.later be)
  have HLN := hidden (HN.out.later be)
  have HLD := hidden (HD.out.later be)
  have HLB := hidden (HBO.out.later be)
  have HW1 := hidden (HW.out.trans (be.mono HW.out.size))
  have HB := hidden (Bd.nil w1)
  have hbx := HBX.out w1 (Below.refl _ _)
  have q0 := hbx.c0
  clear hok hcd hprow hpn hbx q14 be HEN b1
  rw [hk] at q0
  go_wp2_with fail
  refine Ord.wp_region_ex (X := Value × Value) (by kernel_rfl) 147 (fun x => [(some 94, .slice none 0 0), (some 95, .pointer (some ⟨w.heap.size, 2, none⟩)), (some 96, .int .u32 c.tsn), (some 97, x.1), (some 98, .pointer (some ⟨w.heap.size, 7, none⟩)), (some 99, .int .u32 c.win), (some 100, x.2), (some 3, x.2)]) [some 94, some 95, some 96, some 97, some 98, some 99, some 100, some 3] rfl (by kernel_rfl) (by rfl) (fun _ => rfl) (by kernel_rfl) (Ord.St 3 6 (fun y => Bd w1 y (.slice none 0 0) ([])) (fun u y => Bd w1 y u ([] ++ fours [c.tsn])) (fun u y => Bd w1 y u ([] ++ fours [c.tsn] ++ fours [c.win]))) (fun _ _ _ _ hL h => h.ext (n := 8) (by decide) (by decide) hL) ?_ ?_ (undef, undef) ?_
  case refine_1 =>
    intro x L i o ac w' ho hi hcl hdep hF hW
    have hK := hW.all (·.2) (fun _ h => h.2) (fun _ h => h.2)
    have f1' : ac.tmps.size = 147 := hF.1
    match i, ho, hi, hdep with
    | 0, ho, hi, hdep =>
      cases ho
      have hy : L 7 = false := by
        cases hb : L 7 with
        | false => rfl
        | true =>
          have h6 := hcl 7 _ rfl hb ⟨6, .data⟩ (by simp) rfl
          have h3 := hcl 6 _ rfl h6 ⟨3, .data⟩ (by simp) rfl
          have h0 := hcl 3 _ rfl h3 ⟨0, .data⟩ (by simp) rfl
          rw [hi] at h0; cases h0
      have da0 : ac.eval (.tmp 3) = .slice none 0 0 := hF.yet 3 7 (by rfl) hy
      exact Ord.ex_value x rfl rfl (o_mv _ rfl da0) rfl (hW.keep (by decide) (by decide))
    | 1, ho, hi, hdep =>
      cases ho
      have da0 : ac.eval (.tmp 1) = .pointer (some ⟨w.heap.size, 0, none⟩) := hF.old 1 rfl
      exact Ord.ex_value x rfl rfl (e_fa _ da0 rfl (fa2 _ _)) rfl (hW.keep (by decide) (by decide))
    | 2, ho, hi, hdep =>
      cases ho
      have da0 : ac.eval (.tmp 95) = .pointer (some ⟨w.heap.size, 2, none⟩) := hF.2.2.2 1 95 _ rfl (hdep ⟨1, .data⟩ (by simp) rfl)
      exact Ord.ex_value x rfl rfl (e_ld _ da0 rfl (ld32 _ _ _ (HBX.out _ hK).c2)) rfl (hW.keep (by decide) (by decide))
    | 3, ho, hi, hdep =>
      cases ho
      have da0 : ac.eval (.tmp 94) = .slice none 0 0 := hF.2.2.2 0 94 _ rfl (hdep ⟨0, .data⟩ (by simp) rfl)
      have da1 : ac.eval (.tmp 96) = .int .u32 c.tsn := hF.2.2.2 2 96 _ rfl (hdep ⟨2, .data⟩ (by simp) rfl)
      refine Ord.ex_call x (fun v => (v, x.2)) rfl rfl (o_put _ _ da0 da1 rfl) (fun _ => rfl) (fun v j hj => match j, hj with | 0, _ => rfl | 1, _ => rfl | 2, _ => rfl | 3, hj => absurd hj (by rw [hi]; decide) | 4, _ => rfl | 5, _ => rfl | 6, _ => rfl | 7, _ => rfl | _ + 8, _ => rfl) (Calls.mono (rPut4 w1 w' _ ([]) (hW.1 hi) (by simp [fours_len, twos_len]) (c.tsn) N2.1 N2.2) ?_)
      rintro e w1 ⟨v', rfl, hB⟩
      exact ⟨_, rfl, hW.one (by decide) hi (hB)⟩
    | 4, ho, hi, hdep =>
      cases ho
      have da0 : ac.eval (.tmp 1) = .pointer (some ⟨w.heap.size, 0, none⟩) := hF.old 1 rfl
      exact Ord.ex_value x rfl rfl (e_fa _ da0 rfl (fa7 _ _)) rfl (hW.keep (by decide) (by decide))
    | 5, ho, hi, hdep =>
      cases ho
      have da0 : ac.eval (.tmp 98) = .pointer (some ⟨w.heap.size, 7, none⟩) := hF.2.2.2 4 98 _ rfl (hdep ⟨4, .data⟩ (by simp) rfl)
      exact Ord.ex_value x rfl rfl (e_ld _ da0 rfl (ld32 _ _ _ (HBX.out _ hK).c7)) rfl (hW.keep (by decide) (by decide))
    | 6, ho, hi, hdep =>
      cases ho
      have da0 : ac.eval (.tmp 97) = x.1 := hF.2.2.2 3 97 _ rfl (hdep ⟨3, .data⟩ (by simp) rfl)
      have da1 : ac.eval (.tmp 99) = .int .u32 c.win := hF.2.2.2 5 99 _ rfl (hdep ⟨5, .data⟩ (by simp) rfl)
      refine Ord.ex_call x (fun v => (x.1, v)) rfl rfl (o_put _ _ da0 da1 rfl) (fun _ => rfl) (fun v j hj => match j, hj with | 0, _ => rfl | 1, _ => rfl | 2, _ => rfl | 3, _ => rfl | 4, _ => rfl | 5, _ => rfl | 6, hj => absurd hj (by rw [hi]; decide) | 7, hj => absurd (hcl 7 _ rfl hj ⟨6, .data⟩ (by simp) rfl) (by rw [hi]; decide) | _ + 8, _ => rfl) (Calls.mono (rPut4 w1 w' _ ([] ++ fours [c.tsn]) (hW.2.1 (hdep ⟨3, .data⟩ (by simp) rfl) hi) (by simp [fours_len, twos_len]) (c.win) N7.1 N7.2) ?_)
      rintro e w1 ⟨v', rfl, hB⟩
      exact ⟨_, rfl, Ord.St.two (hdep ⟨3, .data⟩ (by simp) rfl) (hB)⟩
    | 7, ho, hi, hdep =>
      cases ho
      have da0 : ac.eval (.tmp 100) = x.2 := hF.2.2.2 6 100 _ rfl (hdep ⟨6, .data⟩ (by simp) rfl)
      exact Ord.ex_value x rfl rfl (o_as _ rfl da0) rfl (hW.keep (by decide) (by decide))
  case refine_3 => exact ⟨fun _ => ⟨HB.out.1, Par.below_drewN HB.out.2 1⟩, fun e => Bool.noConfusion e, fun e => Bool.noConfusion e, fun e => Bool.noConfusion e⟩
  case refine_2 =>
    intro x wn hS
    have hBn := hS.2.2.1 rfl
    clear hS
    obtain ⟨x1, x2⟩ := x
    simp only at hBn
    obtain ⟨va, vc, rfl⟩ := hBn.form
    clear HB
    have HB := hidden hBn
    have hbx := HBX.out _ hBn.2
    
    clear hBn hbx
    generalize hlen : ([] ++ fours [c.tsn] ++ fours [c.win]).length = m at *
    have HLEN := hidden hlen
    clear hlen
    simp only [Ord.puts, Ord.prs, List.filterMap_cons, List.filterMap_nil, Option.map_some, List.foldl_cons, List.foldl_nil]
    go_simp
    go_wp2_with fail
    refine Ord.wp_region_ex (X := Value × Value) (by kernel_rfl) 147 (fun x => [(some 101, .slice va m vc), (some 102, .pointer (some ⟨w.heap.size, 10, none⟩)), (some 103, .slice c.ga c.gl c.gc), (some 104, .int .i64 (c.gl : Int)), (some 105, .int .u32 (c.gl : Int)), (some 106, x.1), (some 107, .pointer (some ⟨w.heap.size, 11, none⟩)), (some 108, .slice c.na c.nl c.nc), (some 109, .int .i64 (c.nl : Int)), (some 110, .int .u32 (c.nl : Int)), (some 111, x.2), (some 3, x.2)]) [some 101, some 102, some 103, some 104, some 105, some 106, some 107, some 108, some 109, some 110, some 111, some 3] rfl (by kernel_rfl) (by rfl) (fun _ => rfl) (by kernel_rfl) (Ord.St 5 10 (fun y => Bd w1 y (.slice va m vc) ([] ++ fours [c.tsn] ++ fours [c.win])) (fun u y => Bd w1 y u ([] ++ fours [c.tsn] ++ fours [c.win] ++ twos [(c.gl : Int)])) (fun u y => Bd w1 y u ([] ++ fours [c.tsn] ++ fours [c.win] ++ twos [(c.gl : Int)] ++ twos [(c.nl : Int)]))) (fun _ _ _ _ hL h => h.ext (n := 12) (by decide) (by decide) hL) ?_ ?_ (undef, undef) ?_
    case refine_1 =>
      intro x L i o ac w' ho hi hcl hdep hF hW
      have hK := hW.all (·.2) (fun _ h => h.2) (fun _ h => h.2)
      have f1' : ac.tmps.size = 147 := hF.1
      match i, ho, hi, hdep with
      | 0, ho, hi, hdep =>
        cases ho
        have hy : L 11 = false := by
          cases hb : L 11 with
          | false => rfl
          | true =>
            have h10 := hcl 11 _ rfl hb ⟨10, .data⟩ (by simp) rfl
            have h5 := hcl 10 _ rfl h10 ⟨5, .data⟩ (by simp) rfl
            have h0 := hcl 5 _ rfl h5 ⟨0, .data⟩ (by simp) rfl
            rw [hi] at h0; cases h0
        have da0 : ac.eval (.tmp 3) = .slice va m vc := hF.yet 3 11 (by rfl) hy
        exact Ord.ex_value x rfl rfl (o_mv _ rfl da0) rfl (hW.keep (by decide) (by decide))
      | 1, ho, hi, hdep =>
        cases ho
        have da0 : ac.eval (.tmp 1) = .pointer (some ⟨w.heap.size, 0, none⟩) := hF.old 1 rfl
        exact Ord.ex_value x rfl rfl (e_fa _ da0 rfl (fa10 _ _)) rfl (hW.keep (by decide) (by decide))
      | 2, ho, hi, hdep =>
        cases ho
        have da0 : ac.eval (.tmp 102) = .pointer (some ⟨w.heap.size, 10, none⟩) := hF.2.2.2 1 102 _ rfl (hdep ⟨1, .data⟩ (by simp) rfl)
        exact Ord.ex_value x rfl rfl (e_ld _ da0 rfl (ldG _ _ _ _ _ (HBX.out _ hK).c10)) rfl (hW.keep (by decide) (by decide))
      | 3, ho, hi, hdep =>
        cases ho
        have da0 : ac.eval (.tmp 103) = .slice c.ga c.gl c.gc := hF.2.2.2 2 103 _ rfl (hdep ⟨2, .data⟩ (by simp) rfl)
        exact Ord.ex_value x rfl rfl (o_len (lenG _ _ _ _) _ da0 rfl) rfl (hW.keep (by decide) (by decide))
      | 4, ho, hi, hdep =>
        cases ho
        have da0 : ac.eval (.tmp 104) = .int .i64 (c.gl : Int) := hF.2.2.2 3 104 _ rfl (hdep ⟨3, .data⟩ (by simp) rfl)
        exact Ord.ex_value x rfl rfl (o_cl _ da0 (by omega) rfl) rfl (hW.keep (by decide) (by decide))
      | 5, ho, hi, hdep =>
        cases ho
        have da0 : ac.eval (.tmp 101) = .slice va m vc := hF.2.2.2 0 101 _ rfl (hdep ⟨0, .data⟩ (by simp) rfl)
        have da1 : ac.eval (.tmp 105) = .int .u32 (c.gl : Int) := hF.2.2.2 4 105 _ rfl (hdep ⟨4, .data⟩ (by simp) rfl)
        refine Ord.ex_call x (fun v => (v, x.2)) rfl rfl (o_put _ _ da0 da1 rfl) (fun _ => rfl) (fun v j hj => match j, hj with | 0, _ => rfl | 1, _ => rfl | 2, _ => rfl | 3, _ => rfl | 4, _ => rfl | 5, hj => absurd hj (by rw [hi]; decide) | 6, _ => rfl | 7, _ => rfl | 8, _ => rfl | 9, _ => rfl | 10, _ => rfl | 11, _ => rfl | _ + 12, _ => rfl) (Calls.mono (rPut2 w1 w' _ ([] ++ fours [c.tsn] ++ fours [c.win]) (hW.1 hi) (by simp [fours_len, twos_len]) ((c.gl : Int)) NG.1 NG.2) ?_)
        rintro e w1 ⟨v', rfl, hB⟩
        exact ⟨_, rfl, hW.one (by decide) hi (hB)⟩
      | 6, ho, hi, hdep =>
        cases ho
        have da0 : ac.eval (.tmp 1) = .pointer (some ⟨w.heap.size, 0, none⟩) := hF.old 1 rfl
        exact Ord.ex_value x rfl rfl (e_fa _ da0 rfl (fa11 _ _)) rfl (hW.keep (by decide) (by decide))
      | 7, ho, hi, hdep =>
        cases ho
        have da0 : ac.eval (.tmp 107) = .pointer (some ⟨w.heap.size, 11, none⟩) := hF.2.2.2 6 107 _ rfl (hdep ⟨6, .data⟩ (by simp) rfl)
        exact Ord.ex_value x rfl rfl (e_ld _ da0 rfl (ldG _ _ _ _ _ (HBX.out _ hK).c11)) rfl (hW.keep (by decide) (by decide))
      | 8, ho, hi, hdep =>
        cases ho
        have da0 : ac.eval (.tmp 108) = .slice c.na c.nl c.nc := hF.2.2.2 7 108 _ rfl (hdep ⟨7, .data⟩ (by simp) rfl)
        exact Ord.ex_value x rfl rfl (o_len (lenG _ _ _ _) _ da0 rfl) rfl (hW.keep (by decide) (by decide))
      | 9, ho, hi, hdep =>
        cases ho
        have da0 : ac.eval (.tmp 109) = .int .i64 (c.nl : Int) := hF.2.2.2 8 109 _ rfl (hdep ⟨8, .data⟩ (by simp) rfl)
        exact Ord.ex_value x rfl rfl (o_cl _ da0 (by omega) rfl) rfl (hW.keep (by decide) (by decide))
      | 10, ho, hi, hdep =>
        cases ho
        have da0 : ac.eval (.tmp 106) = x.1 := hF.2.2.2 5 106 _ rfl (hdep ⟨5, .data⟩ (by simp) rfl)
        have da1 : ac.eval (.tmp 110) = .int .u32 (c.nl : Int) := hF.2.2.2 9 110 _ rfl (hdep ⟨9, .data⟩ (by simp) rfl)
        refine Ord.ex_call x (fun v => (x.1, v)) rfl rfl (o_put _ _ da0 da1 rfl) (fun _ => rfl) (fun v j hj => match j, hj with | 0, _ => rfl | 1, _ => rfl | 2, _ => rfl | 3, _ => rfl | 4, _ => rfl | 5, _ => rfl | 6, _ => rfl | 7, _ => rfl | 8, _ => rfl | 9, _ => rfl | 10, hj => absurd hj (by rw [hi]; decide) | 11, hj => absurd (hcl 11 _ rfl hj ⟨10, .data⟩ (by simp) rfl) (by rw [hi]; decide) | _ + 12, _ => rfl) (Calls.mono (rPut2 w1 w' _ ([] ++ fours [c.tsn] ++ fours [c.win] ++ twos [(c.gl : Int)]) (hW.2.1 (hdep ⟨5, .data⟩ (by simp) rfl) hi) (by simp [fours_len, twos_len]) ((c.nl : Int)) NN.1 NN.2) ?_)
        rintro e w1 ⟨v', rfl, hB⟩
        exact ⟨_, rfl, Ord.St.two (hdep ⟨5, .data⟩ (by simp) rfl) (hB)⟩
      | 11, ho, hi, hdep =>
        cases ho
        have da0 : ac.eval (.tmp 111) = x.2 := hF.2.2.2 10 111 _ rfl (hdep ⟨10, .data⟩ (by simp) rfl)
        exact Ord.ex_value x rfl rfl (o_as _ rfl da0) rfl (hW.keep (by decide) (by decide))
    case refine_3 => exact ⟨fun _ => ⟨HB.out.1, Par.below_drewN HB.out.2 1⟩, fun e => Bool.noConfusion e, fun e => Bool.noConfusion e, fun e => Bool.noConfusion e⟩
    case refine_2 =>
      intro x wn hS
      have hBn := hS.2.2.1 rfl
      clear hS
      obtain ⟨x1, x2⟩ := x
      simp only at hBn
      obtain ⟨va, vc, rfl⟩ := hBn.form
      clear HB
      have HB := hidden hBn
      have hbx := HBX.out _ hBn.2
      have q12 := hbx.c12
      clear hBn hbx
      generalize hlen : ([] ++ fours [c.tsn] ++ fours [c.win] ++ twos [(c.gl : Int)] ++ twos [(c.nl : Int)]).length = m at *
      have HLEN := hidden hlen
      clear hlen
      simp only [Ord.puts, Ord.prs, List.filterMap_cons, List.filterMap_nil, Option.map_some, List.foldl_cons, List.foldl_nil]
      go_simp
      have HGL := hidden HLG.out.1
      have HNL := hidden HLN.out.1
      have hw : ∀ z : Int, IntKind.u32.wrap z = z % 4294967296 := fun _ => rfl
      have hd9 : (c.dl : Int) % 4294967296 = (c.dl : Int) := by omega
      go_wp2_with fail
      refine Calls.mono (rPut2 w1 _ _ ([] ++ fours [c.tsn] ++ fours [c.win] ++ twos [(c.gl : Int)] ++ twos [(c.nl : Int)]) HB.out (by simp [fours_len, twos_len]) c.dl ND.1 ND.2) ?_
      rintro e w3 ⟨v3, rfl, hB3⟩
      have HB3 := hidden hB3
      clear hB3
      go_wp2_with fail
      refine Calls.mono (rPut2 w1 _ _ ([] ++ fours [c.tsn] ++ fours [c.win] ++ twos [(c.gl : Int)] ++ twos [(c.nl : Int)] ++ twos [(c.dl : Int)]) HB3.out (by simp [fours_len, twos_len]) 0 (by decide) (by decide)) ?_
      rintro e w4 ⟨v4, rfl, hB4⟩
      clear HB q12 hd9 hw
      obtain ⟨va, vc, rfl⟩ := hB4.form
      have HB := hidden hB4
      clear hB4
      generalize hlen : ([] ++ fours [c.tsn] ++ fours [c.win] ++ twos [(c.gl : Int)] ++ twos [(c.nl : Int)] ++ twos [(c.dl : Int)] ++ twos [0]).length = m at *
      have HLEN := hidden hlen
      clear hlen
      go_wp2_with fail
      refine Ord.wp_region_ex (X := Value × Value) (by kernel_rfl) 147 (fun x => [(some 119, .slice va m vc), (some 120, .pointer (some ⟨w.heap.size, 10, none⟩)), (some 121, .slice c.ga c.gl c.gc), (some 122, x.1), (some 123, .pointer (some ⟨w.heap.size, 11, none⟩)), (some 124, .slice c.na c.nl c.nc), (some 125, x.2), (some 3, x.2)]) [some 119, some 120, some 121, some 122, some 123, some 124, some 125, some 3] rfl (by kernel_rfl) (by rfl) (fun _ => rfl) (by kernel_rfl) (Ord.St 3 6 (fun y => Bd w1 y (.slice va m vc) ([] ++ fours [c.tsn] ++ fours [c.win] ++ twos [(c.gl : Int)] ++ twos [(c.nl : Int)] ++ twos [(c.dl : Int)] ++ twos [0])) (fun u y => Bd w1 y u ([] ++ fours [c.tsn] ++ fours [c.win] ++ twos [(c.gl : Int)] ++ twos [(c.nl : Int)] ++ twos [(c.dl : Int)] ++ twos [0] ++ gbytes c.gs)) (fun u y => Bd w1 y u ([] ++ fours [c.tsn] ++ fours [c.win] ++ twos [(c.gl : Int)] ++ twos [(c.nl : Int)] ++ twos [(c.dl : Int)] ++ twos [0] ++ gbytes c.gs ++ gbytes c.ns))) (fun _ _ _ _ hL h => h.ext (n := 8) (by decide) (by decide) hL) ?_ ?_ (undef, undef) ?_
      case refine_1 =>
        intro x L i o ac w' ho hi hcl hdep hF hW
        have hK := hW.all (·.2) (fun _ h => h.2) (fun _ h => h.2)
        have f1' : ac.tmps.size = 147 := hF.1
        match i, ho, hi, hdep with
        | 0, ho, hi, hdep =>
          cases ho
          have hy : L 7 = false := by
            cases hb : L 7 with
            | false => rfl
            | true =>
              have h6 := hcl 7 _ rfl hb ⟨6, .data⟩ (by simp) rfl
              have h3 := hcl 6 _ rfl h6 ⟨3, .data⟩ (by simp) rfl
              have h0 := hcl 3 _ rfl h3 ⟨0, .data⟩ (by simp) rfl
              rw [hi] at h0; cases h0
          have da0 : ac.eval (.tmp 3) = .slice va m vc := hF.yet 3 7 (by rfl) hy
          exact Ord.ex_value x rfl rfl (o_mv _ rfl da0) rfl (hW.keep (by decide) (by decide))
        | 1, ho, hi, hdep =>
          cases ho
          have da0 : ac.eval (.tmp 1) = .pointer (some ⟨w.heap.size, 0, none⟩) := hF.old 1 rfl
          exact Ord.ex_value x rfl rfl (e_fa _ da0 rfl (fa10 _ _)) rfl (hW.keep (by decide) (by decide))
        | 2, ho, hi, hdep =>
          cases ho
          have da0 : ac.eval (.tmp 120) = .pointer (some ⟨w.heap.size, 10, none⟩) := hF.2.2.2 1 120 _ rfl (hdep ⟨1, .data⟩ (by simp) rfl)
          exact Ord.ex_value x rfl rfl (e_ld _ da0 rfl (ldG _ _ _ _ _ (HBX.out _ hK).c10)) rfl (hW.keep (by decide) (by decide))
        | 3, ho, hi, hdep =>
          cases ho
          have da0 : ac.eval (.tmp 119) = .slice va m vc := hF.2.2.2 0 119 _ rfl (hdep ⟨0, .data⟩ (by simp) rfl)
          have da1 : ac.eval (.tmp 121) = .slice c.ga c.gl c.gc := hF.2.2.2 2 121 _ rfl (hdep ⟨2, .data⟩ (by simp) rfl)
          refine Ord.ex_call x (fun v => (v, x.2)) rfl rfl (o_gaps _ _ da0 da1 rfl) (fun _ => rfl) (fun v j hj => match j, hj with | 0, _ => rfl | 1, _ => rfl | 2, _ => rfl | 3, hj => absurd hj (by rw [hi]; decide) | 4, _ => rfl | 5, _ => rfl | 6, _ => rfl | 7, _ => rfl | _ + 8, _ => rfl) (Calls.mono (rGaps w1 w' base _ ([] ++ fours [c.tsn] ++ fours [c.win] ++ twos [(c.gl : Int)] ++ twos [(c.nl : Int)] ++ twos [(c.dl : Int)] ++ twos [0]) (hW.1 hi) (by simp [fours_len, twos_len]) c.ga c.gl c.gc c.gs HLG.out hG) ?_)
          rintro e w1 ⟨v', rfl, hB⟩
          exact ⟨_, rfl, hW.one (by decide) hi (hB)⟩
        | 4, ho, hi, hdep =>
          cases ho
          have da0 : ac.eval (.tmp 1) = .pointer (some ⟨w.heap.size, 0, none⟩) := hF.old 1 rfl
          exact Ord.ex_value x rfl rfl (e_fa _ da0 rfl (fa11 _ _)) rfl (hW.keep (by decide) (by decide))
        | 5, ho, hi, hdep =>
          cases ho
          have da0 : ac.eval (.tmp 123) = .pointer (some ⟨w.heap.size, 11, none⟩) := hF.2.2.2 4 123 _ rfl (hdep ⟨4, .data⟩ (by simp) rfl)
          exact Ord.ex_value x rfl rfl (e_ld _ da0 rfl (ldG _ _ _ _ _ (HBX.out _ hK).c11)) rfl (hW.keep (by decide) (by decide))
        | 6, ho, hi, hdep =>
          cases ho
          have da0 : ac.eval (.tmp 122) = x.1 := hF.2.2.2 3 122 _ rfl (hdep ⟨3, .data⟩ (by simp) rfl)
          have da1 : ac.eval (.tmp 124) = .slice c.na c.nl c.nc := hF.2.2.2 5 124 _ rfl (hdep ⟨5, .data⟩ (by simp) rfl)
          refine Ord.ex_call x (fun v => (x.1, v)) rfl rfl (o_gaps _ _ da0 da1 rfl) (fun _ => rfl) (fun v j hj => match j, hj with | 0, _ => rfl | 1, _ => rfl | 2, _ => rfl | 3, _ => rfl | 4, _ => rfl | 5, _ => rfl | 6, hj => absurd hj (by rw [hi]; decide) | 7, hj => absurd (hcl 7 _ rfl hj ⟨6, .data⟩ (by simp) rfl) (by rw [hi]; decide) | _ + 8, _ => rfl) (Calls.mono (rGaps w1 w' base _ ([] ++ fours [c.tsn] ++ fours [c.win] ++ twos [(c.gl : Int)] ++ twos [(c.nl : Int)] ++ twos [(c.dl : Int)] ++ twos [0] ++ gbytes c.gs) (hW.2.1 (hdep ⟨3, .data⟩ (by simp) rfl) hi) (by simp [fours_len, twos_len, gbytes_len, HGL.out]; omega) c.na c.nl c.nc c.ns HLN.out hN) ?_)
          rintro e w1 ⟨v', rfl, hB⟩
          exact ⟨_, rfl, Ord.St.two (hdep ⟨3, .data⟩ (by simp) rfl) (hB)⟩
        | 7, ho, hi, hdep =>
          cases ho
          have da0 : ac.eval (.tmp 125) = x.2 := hF.2.2.2 6 125 _ rfl (hdep ⟨6, .data⟩ (by simp) rfl)
          exact Ord.ex_value x rfl rfl (o_as _ rfl da0) rfl (hW.keep (by decide) (by decide))
      case refine_3 => exact ⟨fun _ => ⟨HB.out.1, Par.below_drewN HB.out.2 1⟩, fun e => Bool.noConfusion e, fun e => Bool.noConfusion e, fun e => Bool.noConfusion e⟩
      case refine_2 =>
        intro x wn hS
        have hBn := hS.2.2.1 rfl
        clear hS
        obtain ⟨x1, x2⟩ := x
        simp only at hBn
        obtain ⟨va, vc, rfl⟩ := hBn.form
        clear HB
        have HB := hidden hBn
        have hbx := HBX.out _ hBn.2
        
        clear hBn hbx
        generalize hlen : ([] ++ fours [c.tsn] ++ fours [c.win] ++ twos [(c.gl : Int)] ++ twos [(c.nl : Int)] ++ twos [(c.dl : Int)] ++ twos [0] ++ gbytes c.gs ++ gbytes c.ns).length = m at *
        have HLEN := hidden hlen
        clear hlen
        simp only [Ord.puts, Ord.prs, List.filterMap_cons, List.filterMap_nil, Option.map_some, List.foldl_cons, List.foldl_nil]
        go_simp
        go_wp2_with fail
        go_loopw [3, 6] (fun v i wr => ∃ k : Nat, k ≤ c.dl ∧ i = .int .i64 k ∧ Bd w1 wr v ([] ++ fours [c.tsn] ++ fours [c.win] ++ twos [(c.gl : Int)] ++ twos [(c.nl : Int)] ++ twos [(c.dl : Int)] ++ twos [0] ++ gbytes c.gs ++ gbytes c.ns ++ fours (c.ds.take k))) (fun _ i _ => c.dl - (intOf i).toNat)
        case atStart => exact ⟨0, Nat.zero_le _, rfl, by simpa [fours] using HB.out⟩
        case round =>
          obtain ⟨k, hk9, rfl, hb9⟩ := hrel
          have q12 := (HBX.out _ hb9.2).c12
          obtain ⟨va9, vc9, rfl⟩ := hb9.form
          have hdsl := HLD.out.1
          have HLEN9 := hidden (show ([] ++ fours [c.tsn] ++ fours [c.win] ++ twos [(c.gl : Int)] ++ twos [(c.nl : Int)] ++ twos [(c.dl : Int)] ++ twos [0] ++ gbytes c.gs ++ gbytes c.ns ++ fours (c.ds.take k)).length = 16 + 4 * c.gl + 4 * c.nl + 4 * k by rw [List.length_append, fours_len, List.length_take, hdsl, Nat.min_eq_left hk9]; simp [fours_len, twos_len, gbytes_len, HGL.out, HNL.out] <;> omega)
          generalize hm9 : ([] ++ fours [c.tsn] ++ fours [c.win] ++ twos [(c.gl : Int)] ++ twos [(c.nl : Int)] ++ twos [(c.dl : Int)] ++ twos [0] ++ gbytes c.gs ++ gbytes c.ns ++ fours (c.ds.take k)).length = m9 at *
          have HM9 := hidden hm9
          clear hm9
          have HB9 := hidden hb9
          clear hb9
          rcases Nat.lt_or_ge k c.dl with hlt | hge
          · obtain ⟨b, off, d, hda, hdk, hcell, hbd⟩ := HLD.out.get hlt
            have hcell9 := (HB9.out.2.cell (cell_lt hcell)).trans hcell
            rw [hda] at q12
            have HSN := hidden (fours_snoc hdk)
            have hlt2 : (k : Int) < (c.dl : Int) := by omega
            clear hdk hcell hda
            go_wp2_with fail
            refine Calls.mono (rPut4 w1 _ _ ([] ++ fours [c.tsn] ++ fours [c.win] ++ twos [(c.gl : Int)] ++ twos [(c.nl : Int)] ++ twos [(c.dl : Int)] ++ twos [0] ++ gbytes c.gs ++ gbytes c.ns ++ fours (c.ds.take k)) HB9.out (by rw [HM9.out, HLEN9.out]; omega) d hbd.1 hbd.2) ?_
            rintro e w9 ⟨v9, rfl, hB9⟩
            have HB10 := hidden hB9
            clear hB9
            go_wp2
            go_roundw
            case rel => exact ⟨k + 1, by omega, by go_num, HB10.out.eqn (by rw [HSN.out]; simp [fours])⟩
            case measure => simp [intOf]; omega
          · obtain rfl : c.dl = k := by omega
            have HF := hidden (show c.ds.take c.dl = c.ds from List.take_of_length_le (by omega))
            go_wp2
            go_ret
            exact ⟨w1, _, rfl, HB9.out.eqn (by rw [HVB.out, HF.out]), HW1.out⟩
set_option maxRecDepth 20000 in
set_option maxHeartbeats 2000000 in
theorem rValueO (base : Nat) (c : Ck) (w : World) (hc : Chk base w c) (k0 : ¬ c.kind = 0) (k1 : ¬ c.kind = 1) (k2 : ¬ c.kind = 2) (k3 : ¬ c.kind = 3) (k7 : ¬ c.kind = 7) (k16 : ¬ c.kind = 16) (hO : OwnF (val c)) (hp : pcode (c.ps.map Par.val) = 0) (hG : c.gl ≤ 4096) (hN : c.nl ≤ 4096) (hD : c.dl ≤ 4096) (hbm : c.bl ≤ 140737488351232) :
    Calls Tryz.prog 53 #[cv c] w fun e w' => ValR w (vby (val c)) e w' := by
  obtain ⟨i0, hi, hz0, hz1, hz2⟩ := info_parts Par.info5
  have HVB := hidden (show vby (val c) = [] ++ Par.enc (c.ps.map Par.val) ++ c.bs from by
    obtain ⟨_, _, _, _, _, _, _, _, _, h8, h9, h10, h11, h12⟩ := hO
    simp only [val] at h8 h9 h10 h11 h12
    simp [k3, k16] at h8 h9 h10
    simp [vby, lisB, num, val, k0, k1, k2, k3, k7, k16, h8, h9, h10, gbytes, fours, twos])
  have HLIM := hidden (show (Par.enc (c.ps.map Par.val)).length ≤ 16777728 → (Par.enc (c.ps.map Par.val)).length + c.bl ≤ 140737488355328 by
    intro hz
    obtain ⟨_, _, _, _, _, _, _, _, _, h8, h9, h10, h11, h12⟩ := hO
    have hbz : c.bs.length = c.bl := hc.2.2.2.2.1.1
    simp only [val] at h11 h12
    rcases h11 with e | e
    · rw [e] at hbz
      simp at hbz
      omega
    · rcases h12 with e2 | e2
      · rw [e2]
        simp [Par.enc]
        omega
      · omega)
  have b1 := Bx.new w c
  have hb := below_box w c
  obtain ⟨⟨N0, N1, N2, N3, N4, N5, N6, N7, N8, N9⟩, hg, hn, hd, hbo, hbn, hprm⟩ := hc.later hb
  have NG : 0 ≤ (c.gl : Int) ∧ (c.gl : Int) < 65536 := by omega
  have NN : 0 ≤ (c.nl : Int) ∧ (c.nl : Int) < 65536 := by omega
  have ND : 0 ≤ (c.dl : Int) ∧ (c.dl : Int) < 65536 := by omega
  have HEN := hidden (Par.rEncode base _ c.pa c.pl c.pc c.ps hprm)
  have HPR := hidden hprm
  have HG := hidden hg
  have HN := hidden hn
  have HD := hidden hd
  have HBO := hidden hbo
  have HBN := hidden hbn
  have HW := hidden hb
  have HX := hidden b1
  have q14 := b1.c14
  clear hprm hg hn hd hbo hbn hb hc
  go_enter Tryz.func53, Tryz.ntmps53
  go_wp2_with fail
  refine Calls.mono HEN.out ?_
  rintro e w1 ⟨pv, cd, rfl, hcd, _, hok, be⟩
  have hcd0 : cd = 0 := (code_val HPR.out.2.2.1 hcd).trans hp
  subst hcd0
  have hlim : (Par.enc (c.ps.map Par.val)).length ≤ 16777728 := by
    rcases hcd with ⟨_, h⟩ | ⟨_, _, h⟩ | ⟨h1, h2, _⟩
    · cases h
    · cases h
    · have := Par.enc_take_le h2 h1 HPR.out.2.2.1 c.ps.length
      rwa [List.take_length] at this
  obtain ⟨pva, pvc, rfl, hprow, hpl, hpm, hpn⟩ := Par.row_own (hok rfl) (enc_by HPR.out) (by omega)
  have HPROW := hidden hprow
  have HPN := hidden hpn
  have HBX := hidden (show ∀ y, Below w1.heap.size w1 y → Bx y w.heap.size c from fun y hy => (HX.out.later be).later hy)
  have HLG := hidden (HG.out.later be)
  have HLN := hidden (HN.out.later be)
  have HLD := hidden (HD.out.later be)
  have HLB := hidden (HBO.out.later be)
  have HW1 := hidden (HW.out.trans (be.mono HW.out.size))
  have HB := hidden (Bd.nil w1)
  have hbx := HBX.out w1 (Below.refl _ _)
  have q0 := hbx.c0
  clear hok hcd hprow hpn hbx q14 be HEN b1
  have HLIM := hidden (HLIM.out hlim)
  have e0 := beq_f k0
  have e1 := beq_f k1
  have e2 := beq_f k2
  have e3 := beq_f k3
  have e7 := beq_f k7
  have e16 := beq_f k16
  go_wp2_with fail
  refine Ord.wp_region_ex (X := Value × Value) (by kernel_rfl) 147 (fun x => [(some 15, .slice none 0 0), (some 16, .slice pva (Par.enc (c.ps.map Par.val)).length pvc), (some 17, x.1), (some 18, .pointer (some ⟨w.heap.size, 13, none⟩)), (some 19, .slice c.ba c.bl c.bc), (some 20, x.2), (some 2, x.2)]) [some 15, some 16, some 17, some 18, some 19, some 20, some 2] rfl (by kernel_rfl) (by rfl) (fun _ => rfl) (by kernel_rfl) (Ord.St 2 5 (fun y => Bd w1 y (.slice none 0 0) []) (fun u y => Bd w1 y u ([] ++ Par.enc (c.ps.map Par.val))) (fun u y => Bd w1 y u ([] ++ Par.enc (c.ps.map Par.val) ++ c.bs))) (fun _ _ _ _ hL h => h.ext (n := 7) (by decide) (by decide) hL) ?_ ?_ (undef, undef) ?_
  case refine_1 =>
    intro x L i o ac w' ho hi hcl hdep hF hW
    have hK := hW.all (·.2) (fun _ h => h.2) (fun _ h => h.2)
    have f1' : ac.tmps.size = 147 := hF.1
    match i, ho, hi, hdep with
    | 0, ho, hi, hdep =>
      cases ho
      have da0 : ac.eval (.tmp 3) = .slice none 0 0 := hF.old 3 rfl
      exact Ord.ex_value x rfl rfl (o_mv _ rfl da0) rfl (hW.keep (by decide) (by decide))
    | 1, ho, hi, hdep =>
      cases ho
      have da0 : ac.eval (.tmp 4) = .slice pva (Par.enc (c.ps.map Par.val)).length pvc := hF.old 4 rfl
      exact Ord.ex_value x rfl rfl (o_mv _ rfl da0) rfl (hW.keep (by decide) (by decide))
    | 2, ho, hi, hdep =>
      cases ho
      have da0 : ac.eval (.tmp 15) = .slice none 0 0 := hF.2.2.2 0 15 _ rfl (hdep ⟨0, .data⟩ (by simp) rfl)
      have da1 : ac.eval (.tmp 16) = .slice pva (Par.enc (c.ps.map Par.val)).length pvc := hF.2.2.2 1 16 _ rfl (hdep ⟨1, .data⟩ (by simp) rfl)
      obtain ⟨v', w2, hr, hB⟩ := run_apB (hW.1 hi) pva _ pvc (HPROW.out.later hK) HPN.out (by simp; omega) 27
      exact Ord.ex_letter x (_, x.2) rfl rfl (o_apB _ _ da0 da1 rfl hr) rfl (fun j hj => match j, hj with | 0, _ => rfl | 1, _ => rfl | 2, hj => absurd hj (by rw [hi]; decide) | 3, _ => rfl | 4, _ => rfl | 5, _ => rfl | 6, _ => rfl | _ + 7, _ => rfl) (hW.one (by decide) hi (hB))
    | 3, ho, hi, hdep =>
      cases ho
      have da0 : ac.eval (.tmp 1) = .pointer (some ⟨w.heap.size, 0, none⟩) := hF.old 1 rfl
      exact Ord.ex_value x rfl rfl (e_fa _ da0 rfl (fa13 _ _)) rfl (hW.keep (by decide) (by decide))
    | 4, ho, hi, hdep =>
      cases ho
      have da0 : ac.eval (.tmp 18) = .pointer (some ⟨w.heap.size, 13, none⟩) := hF.2.2.2 3 18 _ rfl (hdep ⟨3, .data⟩ (by simp) rfl)
      exact Ord.ex_value x rfl rfl (e_ld _ da0 rfl (ldB _ _ _ _ _ (HBX.out _ hK).c13)) rfl (hW.keep (by decide) (by decide))
    | 5, ho, hi, hdep =>
      cases ho
      have da0 : ac.eval (.tmp 17) = x.1 := hF.2.2.2 2 17 _ rfl (hdep ⟨2, .data⟩ (by simp) rfl)
      have da1 : ac.eval (.tmp 19) = .slice c.ba c.bl c.bc := hF.2.2.2 4 19 _ rfl (hdep ⟨4, .data⟩ (by simp) rfl)
      obtain ⟨v', w2, hr, hB⟩ := run_apB (hW.2.1 (hdep ⟨2, .data⟩ (by simp) rfl) hi) c.ba _ c.bc (HLB.out.later hK) HBN.out (by simp only [List.nil_append]; exact HLIM.out) 27
      exact Ord.ex_letter x (x.1, _) rfl rfl (o_apB _ _ da0 da1 rfl hr) rfl (fun j hj => match j, hj with | 0, _ => rfl | 1, _ => rfl | 2, _ => rfl | 3, _ => rfl | 4, _ => rfl | 5, hj => absurd hj (by rw [hi]; decide) | 6, hj => absurd (hcl 6 _ rfl hj ⟨5, .data⟩ (by simp) rfl) (by rw [hi]; decide) | _ + 7, _ => rfl) (Ord.St.two (hdep ⟨2, .data⟩ (by simp) rfl) (hB))
    | 6, ho, hi, hdep =>
      cases ho
      have da0 : ac.eval (.tmp 20) = x.2 := hF.2.2.2 5 20 _ rfl (hdep ⟨5, .data⟩ (by simp) rfl)
      exact Ord.ex_value x rfl rfl (o_as _ rfl da0) rfl (hW.keep (by decide) (by decide))
  case refine_3 => exact ⟨fun _ => ⟨HB.out.1, Par.below_drewN HB.out.2 1⟩, fun e => Bool.noConfusion e, fun e => Bool.noConfusion e, fun e => Bool.noConfusion e⟩
  case refine_2 =>
    intro x wn hS
    have HBn := hidden (hS.2.2.1 rfl)
    clear hS
    obtain ⟨x1, x2⟩ := x
    simp only at HBn
    simp only [Ord.puts, Ord.prs, List.filterMap_cons, List.filterMap_nil, Option.map_some, List.foldl_cons, List.foldl_nil]
    go_simp
    go_wp2
    go_ret
    exact ⟨w1, _, rfl, HBn.out.eqn HVB.out.symm, HW1.out⟩
end Go.Proofs.YtmnndkhdekpecaaGreatDoor.Chu
