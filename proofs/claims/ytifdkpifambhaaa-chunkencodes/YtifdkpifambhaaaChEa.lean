/-
  The document's writer: a row that grows, numbers of two and of four bytes.
  Conditions: the numbers lie within their kinds, the cells hold them.
-/
import Derived.Test.YtifdkpifambhaaaChRb
import Derived.Test.YtifdkpifambhaaaParE
import Derived.Test.YtifdkpifambhaaaOrders6
namespace Go.Proofs.Ytifdkpifambhaaa.Chu
open Go.ChangeShapes Go.WideShapes Go.ChangeAt Go.RowKit
open Par (hidden Bytes Row Prm Prms cell_lt Cap cells_new cutA thrown form_of)
set_option linter.unusedVariables false
attribute [local go_sem ↓] execOp_ld execOp_bx execOp_st

/-- a row of bytes made behind a world -/
def Bd (w0 w : World) (v : Value) (xs : List Int) : Prop := w.ownsRow w0.heap.size 5 1 v xs.length (Par.cs xs) ∧ Below w0.heap.size w0 w
theorem Bd.nil (w : World) : Bd w w (.slice none 0 0) [] := ⟨World.ownsRow_nil _ _ _ _, Below.refl _ _⟩
theorem Bd.later {w0 w w' : World} {v : Value} {xs : List Int} (h : Bd w0 w v xs) (hb : Below w.heap.size w w') : Bd w0 w' v xs := ⟨Par.own_later h.1 hb, h.2.trans (hb.mono h.2.size)⟩
theorem Bd.form {w0 w : World} {v : Value} {xs : List Int} (h : Bd w0 w v xs) : ∃ a cap, v = .slice a xs.length cap := Par.own_form h.1
theorem Bd.eqn {w0 w : World} {v : Value} {xs ys : List Int} (h : Bd w0 w v xs) (e : xs = ys) : Bd w0 w v ys := by rw [← e]; exact h
/-- bytes are put at its end -/
theorem Bd.put {w0 w w' : World} {v' : Value} {a : Option Addr} {n cap : Nat} {xs : List Int} {o : Obj} {y : Int} (h : Bd w0 w (.slice a n cap) xs) (hn : xs.length = n) (ho : w'.ownsRow w0.heap.size 5 1 v' (n + 1) (Par.cs xs ++ [.int .u8 y]))
    (hg : (w.alloc o).grownBy w' (Value.slice a n cap).ownBlock) : Bd w0 w' v' (xs ++ [y]) := by
  refine ⟨?_, (h.2.alloc h.2.size o).grown hg (by have := h.2.size; simp; omega) (fun j hj => (h.1.lt j hj).1)⟩
  rw [List.length_append, hn, Par.cs_append]
  exact ho
/-- a row is put at its end -/
theorem Bd.app {w0 w w' : World} {v' : Value} {a : Option Addr} {n m cap : Nat} {xs ys : List Int} (h : Bd w0 w (.slice a n cap) xs) (hn : xs.length = n) (hm : ys.length = m) (ho : w'.ownsRow w0.heap.size 5 1 v' (n + m) (Par.cs xs ++ Par.cs ys))
    (hg : w.grownBy w' (Value.slice a n cap).ownBlock) : Bd w0 w' v' (xs ++ ys) := by
  refine ⟨?_, h.2.grown hg h.2.size (fun j hj => (h.1.lt j hj).1)⟩
  rw [List.length_append, hn, hm, Par.cs_append]
  exact ho
theorem Bd.own {w0 w : World} {a : Option Addr} {n cap : Nat} {xs : List Int} (h : Bd w0 w (.slice a n cap) xs) (hn : xs.length = n) : w.ownsRow w0.heap.size 5 1 (.slice a n cap) n (Par.cs xs) := by rw [← hn] at h ⊢; exact h.1
set_option maxRecDepth 20000 in
theorem rPut4 (w0 w : World) (v : Value) (xs : List Int) (h : Bd w0 w v xs) (hx : xs.length ≤ 1000000) (x : Int) (h0 : 0 ≤ x) (h1 : x < 4294967296) :
    Calls Try.prog 26 #[v, .int .u32 x, .int .i64 4] w fun e w' => ∃ v', e = .returned v' ∧ Bd w0 w' v' (xs ++ fours [x]) := by
  obtain ⟨i0, hi, hz0, hz1, hz2⟩ := info_parts Par.info5
  have HH := hidden h
  clear h
  go_enter Try.func26, Try.ntmps26
  go_wp2_with fail
  go_loopw [0, 7] (fun v i wr => ∃ j : Nat, j ≤ 4 ∧ i = .int .i64 (3 - (j : Int)) ∧ Bd w0 wr v (xs ++ (fours [x]).take j)) (fun _ i _ => (intOf i + 1).toNat)
  case atStart => exact ⟨0, by omega, rfl, by simpa using HH.out⟩
  case round =>
    obtain ⟨j, hj, rfl, hb⟩ := hrel
    obtain ⟨va, vc, rfl⟩ := hb.form
    have hlen : (xs ++ (fours [x]).take j).length = xs.length + j := by rw [List.length_append, List.length_take, fours_len]; simp; omega
    have hs := hb.2.size
    generalize hY : xs ++ (fours [x]).take j = Y at *
    generalize hm : Y.length = m at *
    have HY := hidden hY
    have HM := hidden hm
    have HB := hidden hb
    have hml : m ≤ 1000004 := by omega
    clear hb hY hm hlen
    have hw : ∀ z : Int, IntKind.u8.wrap z = z % 256 := fun _ => rfl
    rcases Nat.lt_or_ge j 4 with hlt | hge
    · obtain rfl | rfl | rfl | rfl : j = 0 ∨ j = 1 ∨ j = 2 ∨ j = 3 := by omega
      · have hyx : x / 16777216 % 256 = x / 16777216 % 256 := by omega
        have HS := hidden (show (fours [x]).take 1 = (fours [x]).take 0 ++ [x / 16777216 % 256] by simp [fours]; try omega)
        go_wp2_with (at_builtin; refine wpList_append_own _ rfl _ _ 23 rfl w0.heap.size 5 i0 (.int .u8 0) 1 1 Try.underlying23 hi hz0 hz1 hz2 rfl (by decide) _ _ _ rfl ((HB.out.own HM.out).alloc _) ⟨wr.heap.size, 0, none⟩ 1 1 [.int .u8 (x / 16777216 % 256)] rfl rfl (cell_one_new _ _ _) (by simp [Value.oneCell']) ?c3 ?c4 (by simp; omega) ?_)
        case c3 => unfold maxLen; omega
        case c4 => omega
        intro v' w2 ho2 hg2 _
        have HB2 := hidden (HB.out.put HM.out ho2 hg2)
        clear ho2 hg2
        go_wp2
        go_roundw
        case rel => exact ⟨1, by omega, by rfl, HB2.out.eqn (by rw [← HY.out, HS.out, List.append_assoc])⟩
        case measure => simp [intOf]
      · have hyx : x / 65536 % 256 = x / 65536 % 256 := by omega
        have HS := hidden (show (fours [x]).take 2 = (fours [x]).take 1 ++ [x / 65536 % 256] by simp [fours]; try omega)
        go_wp2_with (at_builtin; refine wpList_append_own _ rfl _ _ 23 rfl w0.heap.size 5 i0 (.int .u8 0) 1 1 Try.underlying23 hi hz0 hz1 hz2 rfl (by decide) _ _ _ rfl ((HB.out.own HM.out).alloc _) ⟨wr.heap.size, 0, none⟩ 1 1 [.int .u8 (x / 65536 % 256)] rfl rfl (cell_one_new _ _ _) (by simp [Value.oneCell']) ?c3 ?c4 (by simp; omega) ?_)
        case c3 => unfold maxLen; omega
        case c4 => omega
        intro v' w2 ho2 hg2 _
        have HB2 := hidden (HB.out.put HM.out ho2 hg2)
        clear ho2 hg2
        go_wp2
        go_roundw
        case rel => exact ⟨2, by omega, by rfl, HB2.out.eqn (by rw [← HY.out, HS.out, List.append_assoc])⟩
        case measure => simp [intOf]
      · have hyx : x / 256 % 256 = x / 256 % 256 := by omega
        have HS := hidden (show (fours [x]).take 3 = (fours [x]).take 2 ++ [x / 256 % 256] by simp [fours]; try omega)
        go_wp2_with (at_builtin; refine wpList_append_own _ rfl _ _ 23 rfl w0.heap.size 5 i0 (.int .u8 0) 1 1 Try.underlying23 hi hz0 hz1 hz2 rfl (by decide) _ _ _ rfl ((HB.out.own HM.out).alloc _) ⟨wr.heap.size, 0, none⟩ 1 1 [.int .u8 (x / 256 % 256)] rfl rfl (cell_one_new _ _ _) (by simp [Value.oneCell']) ?c3 ?c4 (by simp; omega) ?_)
        case c3 => unfold maxLen; omega
        case c4 => omega
        intro v' w2 ho2 hg2 _
        have HB2 := hidden (HB.out.put HM.out ho2 hg2)
        clear ho2 hg2
        go_wp2
        go_roundw
        case rel => exact ⟨3, by omega, by rfl, HB2.out.eqn (by rw [← HY.out, HS.out, List.append_assoc])⟩
        case measure => simp [intOf]
      · have hyx : x % 256 = x % 256 := by omega
        have HS := hidden (show (fours [x]).take 4 = (fours [x]).take 3 ++ [x % 256] by simp [fours]; try omega)
        go_wp2_with (at_builtin; refine wpList_append_own _ rfl _ _ 23 rfl w0.heap.size 5 i0 (.int .u8 0) 1 1 Try.underlying23 hi hz0 hz1 hz2 rfl (by decide) _ _ _ rfl ((HB.out.own HM.out).alloc _) ⟨wr.heap.size, 0, none⟩ 1 1 [.int .u8 (x % 256)] rfl rfl (cell_one_new _ _ _) (by simp [Value.oneCell']) ?c3 ?c4 (by simp; omega) ?_)
        case c3 => unfold maxLen; omega
        case c4 => omega
        intro v' w2 ho2 hg2 _
        have HB2 := hidden (HB.out.put HM.out ho2 hg2)
        clear ho2 hg2
        go_wp2
        go_roundw
        case rel => exact ⟨4, by omega, by rfl, HB2.out.eqn (by rw [← HY.out, HS.out, List.append_assoc])⟩
        case measure => simp [intOf]
    · obtain rfl : 4 = j := by omega
      have HF := hidden (show (fours [x]).take 4 = fours [x] from List.take_of_length_le (by rw [fours_len]; simp))
      go_wp2
      go_ret
      exact ⟨_, rfl, HB.out.eqn (by rw [← HY.out, HF.out])⟩
set_option maxRecDepth 20000 in
theorem rPut2 (w0 w : World) (v : Value) (xs : List Int) (h : Bd w0 w v xs) (hx : xs.length ≤ 1000000) (x : Int) (h0 : 0 ≤ x) (h1 : x < 65536) :
    Calls Try.prog 26 #[v, .int .u32 x, .int .i64 2] w fun e w' => ∃ v', e = .returned v' ∧ Bd w0 w' v' (xs ++ twos [x]) := by
  obtain ⟨i0, hi, hz0, hz1, hz2⟩ := info_parts Par.info5
  have HH := hidden h
  clear h
  go_enter Try.func26, Try.ntmps26
  go_wp2_with fail
  go_loopw [0, 7] (fun v i wr => ∃ j : Nat, j ≤ 2 ∧ i = .int .i64 (1 - (j : Int)) ∧ Bd w0 wr v (xs ++ (twos [x]).take j)) (fun _ i _ => (intOf i + 1).toNat)
  case atStart => exact ⟨0, by omega, rfl, by simpa using HH.out⟩
  case round =>
    obtain ⟨j, hj, rfl, hb⟩ := hrel
    obtain ⟨va, vc, rfl⟩ := hb.form
    have hlen : (xs ++ (twos [x]).take j).length = xs.length + j := by rw [List.length_append, List.length_take, twos_len]; simp; omega
    have hs := hb.2.size
    generalize hY : xs ++ (twos [x]).take j = Y at *
    generalize hm : Y.length = m at *
    have HY := hidden hY
    have HM := hidden hm
    have HB := hidden hb
    have hml : m ≤ 1000004 := by omega
    clear hb hY hm hlen
    have hw : ∀ z : Int, IntKind.u8.wrap z = z % 256 := fun _ => rfl
    rcases Nat.lt_or_ge j 2 with hlt | hge
    · obtain rfl | rfl : j = 0 ∨ j = 1 := by omega
      · have hyx : x / 256 % 256 = x / 256 % 256 := by omega
        have HS := hidden (show (twos [x]).take 1 = (twos [x]).take 0 ++ [x / 256 % 256] by simp [twos]; try omega)
        go_wp2_with (at_builtin; refine wpList_append_own _ rfl _ _ 23 rfl w0.heap.size 5 i0 (.int .u8 0) 1 1 Try.underlying23 hi hz0 hz1 hz2 rfl (by decide) _ _ _ rfl ((HB.out.own HM.out).alloc _) ⟨wr.heap.size, 0, none⟩ 1 1 [.int .u8 (x / 256 % 256)] rfl rfl (cell_one_new _ _ _) (by simp [Value.oneCell']) ?c3 ?c4 (by simp; omega) ?_)
        case c3 => unfold maxLen; omega
        case c4 => omega
        intro v' w2 ho2 hg2 _
        have HB2 := hidden (HB.out.put HM.out ho2 hg2)
        clear ho2 hg2
        go_wp2
        go_roundw
        case rel => exact ⟨1, by omega, by rfl, HB2.out.eqn (by rw [← HY.out, HS.out, List.append_assoc])⟩
        case measure => simp [intOf]
      · have hyx : x % 256 = x % 256 := by omega
        have HS := hidden (show (twos [x]).take 2 = (twos [x]).take 1 ++ [x % 256] by simp [twos]; try omega)
        go_wp2_with (at_builtin; refine wpList_append_own _ rfl _ _ 23 rfl w0.heap.size 5 i0 (.int .u8 0) 1 1 Try.underlying23 hi hz0 hz1 hz2 rfl (by decide) _ _ _ rfl ((HB.out.own HM.out).alloc _) ⟨wr.heap.size, 0, none⟩ 1 1 [.int .u8 (x % 256)] rfl rfl (cell_one_new _ _ _) (by simp [Value.oneCell']) ?c3 ?c4 (by simp; omega) ?_)
        case c3 => unfold maxLen; omega
        case c4 => omega
        intro v' w2 ho2 hg2 _
        have HB2 := hidden (HB.out.put HM.out ho2 hg2)
        clear ho2 hg2
        go_wp2
        go_roundw
        case rel => exact ⟨2, by omega, by rfl, HB2.out.eqn (by rw [← HY.out, HS.out, List.append_assoc])⟩
        case measure => simp [intOf]
    · obtain rfl : 2 = j := by omega
      have HF := hidden (show (twos [x]).take 2 = twos [x] from List.take_of_length_le (by rw [twos_len]; simp))
      go_wp2
      go_ret
      exact ⟨_, rfl, HB.out.eqn (by rw [← HY.out, HF.out])⟩
end Go.Proofs.Ytifdkpifambhaaa.Chu
