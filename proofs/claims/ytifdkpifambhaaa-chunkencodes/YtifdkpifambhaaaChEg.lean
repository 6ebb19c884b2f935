/-
  The document's writer: a row that grows beside another one; numbers of two bytes.
  Conditions: the numbers lie within their kinds, the cells hold them.
-/
import Derived.Test.YtifdkpifambhaaaChEc
import Derived.Test.YtifdkpifambhaaaChAa
namespace Go.Proofs.Ytifdkpifambhaaa.Ord
open Go.ChangeShapes Go.WideShapes Go.ChangeAt Go.RowKit
set_option linter.unusedVariables false
/-- three steps, one behind the other -/
def St3 (c0 c1 c2 : Nat) (A0 : World → Prop) (A1 A2 A3 : Value → World → Prop) (x : Value × Value × Value) (L : Nat → Bool) (w : World) : Prop :=
  (L c0 = false → A0 w) ∧ (L c0 = true → L c1 = false → A1 x.1 w) ∧ (L c1 = true → L c2 = false → A2 x.2.1 w) ∧ (L c2 = true → A3 x.2.2 w) ∧ (L c1 = true → L c0 = true) ∧ (L c2 = true → L c1 = true)
section
variable {c0 c1 c2 : Nat} {A0 : World → Prop} {A1 A2 A3 : Value → World → Prop} {x : Value × Value × Value} {L L' : Nat → Bool} {w w' : World} {v : Value}
theorem St3.ext {n : Nat} (h0 : c0 < n) (h1 : c1 < n) (h2 : c2 < n) (hL : ∀ j, j < n → L j = L' j) (h : St3 c0 c1 c2 A0 A1 A2 A3 x L w) : St3 c0 c1 c2 A0 A1 A2 A3 x L' w := by
  unfold St3 at h ⊢
  rw [← hL c0 h0, ← hL c1 h1, ← hL c2 h2]
  exact h
theorem St3.keep {i : Nat} (h0 : decide (c0 = i) = false) (h1 : decide (c1 = i) = false) (h2 : decide (c2 = i) = false) (h : St3 c0 c1 c2 A0 A1 A2 A3 x L w) : St3 c0 c1 c2 A0 A1 A2 A3 x (upd L i) w := by
  have e0 : upd L i c0 = L c0 := by unfold upd; rw [h0]; rfl
  have e1 : upd L i c1 = L c1 := by unfold upd; rw [h1]; rfl
  have e2 : upd L i c2 = L c2 := by unfold upd; rw [h2]; rfl
  unfold St3 at h ⊢
  rw [e0, e1, e2]
  exact h
theorem St3.one (n1 : decide (c1 = c0) = false) (n2 : decide (c2 = c0) = false) (hL : L c0 = false) (h : St3 c0 c1 c2 A0 A1 A2 A3 x L w) (hv : A1 v w') : St3 c0 c1 c2 A0 A1 A2 A3 (v, x.2) (upd L c0) w' := by
  have h1 : L c1 = false := by
    cases hb : L c1 with
    | false => rfl
    | true => rw [h.2.2.2.2.1 hb] at hL; cases hL
  have h2 : L c2 = false := by
    cases hb : L c2 with
    | false => rfl
    | true => rw [h.2.2.2.2.2 hb] at h1; cases h1
  have e0 : upd L c0 c0 = true := by unfold upd; rw [decide_eq_true rfl]; rfl
  have e1 : upd L c0 c1 = false := by unfold upd; rw [n1, h1]; rfl
  have e2 : upd L c0 c2 = false := by unfold upd; rw [n2, h2]; rfl
  unfold St3
  rw [e0, e1, e2]
  exact ⟨(fun e => Bool.noConfusion e), (fun _ _ => hv), (fun e => Bool.noConfusion e), (fun e => Bool.noConfusion e), (fun _ => rfl), (fun e => Bool.noConfusion e)⟩
theorem St3.two (n2 : decide (c2 = c1) = false) (h0 : L c0 = true) (hL : L c1 = false) (h : St3 c0 c1 c2 A0 A1 A2 A3 x L w) (hv : A2 v w') : St3 c0 c1 c2 A0 A1 A2 A3 (x.1, v, x.2.2) (upd L c1) w' := by
  have h2 : L c2 = false := by
    cases hb : L c2 with
    | false => rfl
    | true => rw [h.2.2.2.2.2 hb] at hL; cases hL
  have e0 : upd L c1 c0 = true := by unfold upd; rw [h0, Bool.or_true]
  have e1 : upd L c1 c1 = true := by unfold upd; rw [decide_eq_true rfl]; rfl
  have e2 : upd L c1 c2 = false := by unfold upd; rw [n2, h2]; rfl
  unfold St3
  rw [e0, e1, e2]
  exact ⟨(fun e => Bool.noConfusion e), (fun _ e => Bool.noConfusion e), (fun _ _ => hv), (fun e => Bool.noConfusion e), (fun _ => rfl), (fun _ => rfl)⟩
theorem St3.three (h1 : L c1 = true) (h : St3 c0 c1 c2 A0 A1 A2 A3 x L w) (hv : A3 v w') : St3 c0 c1 c2 A0 A1 A2 A3 (x.1, x.2.1, v) (upd L c2) w' := by
  have h0 := h.2.2.2.2.1 h1
  have e0 : upd L c2 c0 = true := by unfold upd; rw [h0, Bool.or_true]
  have e1 : upd L c2 c1 = true := by unfold upd; rw [h1, Bool.or_true]
  have e2 : upd L c2 c2 = true := by unfold upd; rw [decide_eq_true rfl]; rfl
  unfold St3
  rw [e0, e1, e2]
  exact ⟨(fun e => Bool.noConfusion e), (fun _ e => Bool.noConfusion e), (fun _ e => Bool.noConfusion e), (fun _ => hv), (fun _ => rfl), (fun _ => rfl)⟩
theorem St3.all {R : Prop} (h : St3 c0 c1 c2 A0 A1 A2 A3 x L w) (h0 : A0 w → R) (h1 : ∀ v, A1 v w → R) (h2 : ∀ v, A2 v w → R) (h3 : ∀ v, A3 v w → R) : R := by
  cases hc : L c2 with
  | true => exact h3 _ (h.2.2.2.1 hc)
  | false =>
    cases hb : L c1 with
    | true => exact h2 _ (h.2.2.1 hb hc)
    | false =>
      cases ha : L c0 with
      | true => exact h1 _ (h.2.1 ha hb)
      | false => exact h0 (h.1 ha)
end
end Go.Proofs.Ytifdkpifambhaaa.Ord
namespace Go.Proofs.Ytifdkpifambhaaa.Chu
open Go.ChangeShapes Go.WideShapes Go.ChangeAt Go.RowKit
open Par (hidden Bytes Row Prm Prms cell_lt Cap cells_new cutA thrown form_of)
set_option linter.unusedVariables false
set_option linter.unusedSimpArgs false
attribute [local go_sem ↓] execOp_ld execOp_bx execOp_st

/-- a row of bytes made behind a world, and another one beside it -/
def Bd2 (w0 w : World) (v : Value) (xs : List Int) (u : Value) (ys : List Int) : Prop :=
  Bd w0 w v xs ∧ w.ownsRow w0.heap.size 5 1 u ys.length (Par.cs ys) ∧ (u.ownBlock = none ∨ u.ownBlock ≠ v.ownBlock)
theorem Bd2.step {w0 w w1 w' : World} {v v' u : Value} {xs xs' ys : List Int} (h : Bd2 w0 w v xs u ys) (h1 : w1.ownsRow w0.heap.size 5 1 u ys.length (Par.cs ys)) (hg : w1.grownBy w' v.ownBlock)
    (hw : v'.ownBlock = v.ownBlock ∨ v'.ownBlock = some w1.heap.size) (hB : Bd w0 w' v' xs') : Bd2 w0 w' v' xs' u ys := by
  refine ⟨hB, h1.kept hg h.2.2, ?_⟩
  rcases hw with e | e
  · rw [e]; exact h.2.2
  · cases hu : u.ownBlock with
    | none => exact .inl rfl
    | some k =>
      right
      rw [e]
      have := (h1.lt k hu).2
      intro hh
      cases hh
      omega
theorem Bd2.eqn {w0 w : World} {v u : Value} {xs xs' ys : List Int} (h : Bd2 w0 w v xs u ys) (e : xs = xs') : Bd2 w0 w v xs' u ys := by rw [← e]; exact h
theorem Bd2.drew {w0 w : World} {v u : Value} {xs ys : List Int} (h : Bd2 w0 w v xs u ys) : Bd2 w0 w.drew v xs u ys := ⟨⟨h.1.1, Par.below_drewN h.1.2 1⟩, h.2.1, h.2.2⟩
theorem Bd.two {w0 w : World} {v : Value} {xs : List Int} (h : Bd w0 w v xs) : Bd2 w0 w v xs (.slice none 0 0) [] := ⟨h, World.ownsRow_nil _ _ _ _, .inl rfl⟩
/-- numbers that were laid into a new row are put at its end -/
theorem run_apN {w0 w : World} {v u : Value} {xs ys zs : List Int} (h : Bd2 w0 w v xs u ys) (hz : 0 < zs.length) (hx : xs.length + zs.length ≤ 140737488355328) (ty : TypeId) :
    ∃ v' w', (Builtin.append_ #[23, 23] ty #[v, .slice (some ⟨w.heap.size, 0, none⟩) zs.length zs.length]).run Try.prog (w.alloc (.cells (Par.cs zs).toArray 5)) = .ok v' w' ∧ Bd2 w0 w' v' (xs ++ zs) u ys := by
  obtain ⟨i0, hi, hz0, hz1, hz2⟩ := info_parts Par.info5
  obtain ⟨a, cap, rfl⟩ := h.1.form
  have hs := h.1.2.size
  have hc : ∀ j u, (Par.cs zs)[j]? = some u → (w.alloc (.cells (Par.cs zs).toArray 5)).cell? ((⟨w.heap.size, 0, none⟩ : Addr).add j) = some u := by
    have := cells_new w (Par.cs zs).toArray 5
    simpa using this
  have hl : (Par.cs zs).length = zs.length * 1 := by rw [Par.cs_len, Nat.mul_one]
  obtain ⟨v', w', hr, h2, h3, _⟩ := run_append_own (P := Try.prog) (w.alloc (.cells (Par.cs zs).toArray 5)) w0.heap.size 23 ty 5 i0 (.int .u8 0) 1 1 Try.underlying23 hi hz0 hz1 hz2 rfl (by decide) _ _ _ (h.1.1.alloc _) ⟨w.heap.size, 0, none⟩ zs.length zs.length (Par.cs zs) hl hc (Par.cs_one _) (by unfold maxLen; omega) (by omega) (by rw [World.size_alloc]; omega)
  have h5 := append_where (c := zs.length) (ty := ty) Try.underlying23 hi hz0 (by rw [hz1]; exact h.1.1.alloc (.cells (Par.cs zs).toArray 5)) (by rw [hz1]; exact hl) hc (Par.cs_one _) hz (by unfold maxLen; omega) (by rw [hz2]; omega) hr
  refine ⟨v', w', hr, h.step (h.2.1.alloc _) h3 h5 ⟨?_, (h.1.2.alloc hs _).grown h3 (by rw [World.size_alloc]; omega) (fun j hj => (h.1.1.lt j hj).1)⟩⟩
  rw [List.length_append, Par.cs_append]
  exact h2
set_option maxRecDepth 20000 in
theorem rPut2b (w0 w : World) (v u : Value) (xs ys : List Int) (h : Bd2 w0 w v xs u ys) (hx : xs.length ≤ 1000000) (x : Int) (h0 : 0 ≤ x) (h1 : x < 65536) :
    Calls Try.prog 26 #[v, .int .u32 x, .int .i64 2] w fun e w' => ∃ v', e = .returned v' ∧ Bd2 w0 w' v' (xs ++ twos [x]) u ys := by
  have HH := hidden h
  clear h
  go_enter Try.func26, Try.ntmps26
  go_wp2_with fail
  go_loopw [0, 7] (fun v i wr => ∃ j : Nat, j ≤ 2 ∧ i = .int .i64 (1 - (j : Int)) ∧ Bd2 w0 wr v (xs ++ (twos [x]).take j) u ys) (fun _ i _ => (intOf i + 1).toNat)
  case atStart => exact ⟨0, by omega, rfl, by simpa using HH.out⟩
  case round =>
    obtain ⟨j, hj, rfl, hb⟩ := hrel
    obtain ⟨va, vc, rfl⟩ := hb.1.form
    have hlen : (xs ++ (twos [x]).take j).length = xs.length + j := by rw [List.length_append, List.length_take, twos_len]; simp; omega
    have hs := hb.1.2.size
    generalize hY : xs ++ (twos [x]).take j = Y at *
    generalize hm : Y.length = m at *
    have HY := hidden hY
    have HM := hidden hm
    have HB := hidden hb
    have hml : m ≤ 1000004 := by omega
    clear hb hY hm hlen
    have hw : ∀ z : Int, IntKind.u8.wrap z = z % 256 := fun _ => rfl
    rcases Nat.lt_or_ge j 2 with hlt | hge
    · obtain rfl | rfl : j = 0 ∨ j = 1 := by omega
      · have hyx : x / 256 % 256 = x / 256 % 256 := by omega
        have HS := hidden (show (twos [x]).take 1 = (twos [x]).take 0 ++ [x / 256 % 256] by simp [twos]; try omega)
        obtain ⟨v', w2, hr, hB⟩ := run_apN (zs := [x / 256 % 256]) HB.out (by simp) (by rw [HM.out]; simp; omega) 23
        have hr' : (Builtin.append_ #[23, 23] 23 #[.slice va m vc, .slice (some ⟨wr.heap.size, 0, none⟩) 1 1]).run Try.prog (wr.alloc (.cells #[.int .u8 (x / 256 % 256)] 5)) = .ok v' w2 := hr
        have HB2 := hidden hB
        clear hB hr
        go_wp2_with (at_builtin; refine Ord.wpList_val rfl rfl (o_apB _ _ rfl rfl rfl hr') ?_)
        clear hr'
        go_wp2
        go_roundw
        case rel => exact ⟨1, by omega, by rfl, HB2.out.eqn (by rw [← HY.out, HS.out, List.append_assoc])⟩
        case measure => simp [intOf]
      · have hyx : x % 256 = x % 256 := by omega
        have HS := hidden (show (twos [x]).take 2 = (twos [x]).take 1 ++ [x % 256] by simp [twos]; try omega)
        obtain ⟨v', w2, hr, hB⟩ := run_apN (zs := [x % 256]) HB.out (by simp) (by rw [HM.out]; simp; omega) 23
        have hr' : (Builtin.append_ #[23, 23] 23 #[.slice va m vc, .slice (some ⟨wr.heap.size, 0, none⟩) 1 1]).run Try.prog (wr.alloc (.cells #[.int .u8 (x % 256)] 5)) = .ok v' w2 := hr
        have HB2 := hidden hB
        clear hB hr
        go_wp2_with (at_builtin; refine Ord.wpList_val rfl rfl (o_apB _ _ rfl rfl rfl hr') ?_)
        clear hr'
        go_wp2
        go_roundw
        case rel => exact ⟨2, by omega, by rfl, HB2.out.eqn (by rw [← HY.out, HS.out, List.append_assoc])⟩
        case measure => simp [intOf]
    · obtain rfl : 2 = j := by omega
      have HF := hidden (show (twos [x]).take 2 = twos [x] from List.take_of_length_le (by rw [twos_len]; simp))
      go_wp2
      go_ret
      exact ⟨_, rfl, HB.out.eqn (by rw [← HY.out, HF.out])⟩
section
variable {a : Act} {o : Oper} {w : World}
theorem o_ixC {b off len cap k : Nat} (x y : Operand) (hx : a.eval x = .slice (some ⟨b, off, none⟩) len cap) (hy : a.eval y = .int .i64 (k : Int)) (hk : k < len) (ho : o.op = .indexAddr 22 x y) : (execOp a.eval o).run Try.prog w = .ok (.value (.pointer (some ⟨b, off + k * 15, none⟩))) w := by
  have i1 : (k : Int) < (len : Int) := by omega
  unfold execOp
  rw [ho]
  simp only [hx, hy]
  go_simp
theorem o_f0 {b off : Nat} (x : Operand) (h0 : a.eval x = .pointer (some ⟨b, off, none⟩)) (ho : o.op = .fieldAddr 37 x 0) : (execOp a.eval o).run Try.prog w = .ok (.value (.pointer (some ⟨b, off, none⟩))) w := by
  unfold execOp
  rw [ho]
  simp only [h0]
  go_simp
theorem o_f1 {b off : Nat} (x : Operand) (h0 : a.eval x = .pointer (some ⟨b, off, none⟩)) (ho : o.op = .fieldAddr 37 x 1) : (execOp a.eval o).run Try.prog w = .ok (.value (.pointer (some ⟨b, off + 1, none⟩))) w := by
  unfold execOp
  rw [ho]
  simp only [h0]
  go_simp
theorem o_bs2 {s t : Int} (x y : Operand) (h0 : a.eval x = .int .u8 s) (h1 : a.eval y = .int .u8 t) (ho : o.op = .buildSlice 23 2 #[(0, x), (1, y)]) : (execOp a.eval o).run Try.prog w = .ok (.value (.slice (some ⟨w.heap.size, 0, none⟩) 2 2)) (w.alloc (.cells #[.int .u8 s, .int .u8 t] 5)) := by
  unfold execOp
  rw [ho]
  simp only [List.map_toArray, List.map_cons, List.map_nil, h0, h1]
  go_simp
theorem o_a4 {n : Nat} (x : Operand) (hx : a.eval x = .int .i64 (n : Int)) (hn : n ≤ 100000) (ho : o.op = .binOp .add 3 x (.const (.int .i64 4)) 3) : (execOp a.eval o).run Try.prog w = .ok (.value (.int .i64 ((n + 4 : Nat) : Int))) w := by
  have e : IntKind.i64.wrap ((n : Int) + 4) = ((n + 4 : Nat) : Int) := by
    rw [wrapS _ (by omega) (by omega)]
    omega
  have := o_add (a := a) (o := o) (w := w) x (.const (.int .i64 4)) ho hx rfl
  rw [e] at this
  exact this
end
theorem Cks.cell {base : Nat} {w : World} {n k : Nat} {l : List Ck} {b off : Nat} (h : Cks base w (some ⟨b, off, none⟩) n l) {c : Ck} (hk : l[k]? = some c) (j : Nat) (u : Value) (hu : (cc c).toList[j]? = some u) : w.cell? ⟨b, off + k * 15 + j, none⟩ = some u := by
  obtain ⟨h1, h2, h3, h4⟩ := h
  rcases h4 with h0 | ⟨b', off', e, hbb, hc⟩
  · have := ccs_get l k c hk j u hu
    rw [h0] at this
    simp at this
  · cases e
    rw [Nat.add_assoc]
    exact hc _ _ (ccs_get l k c hk j u hu)
theorem tot_mod (vs : List Ch) : tot vs % 4 = 0 := by
  induction vs with
  | nil => rfl
  | cons x l ih =>
    have e : tot (x :: l) = clen x + tot l := by unfold tot; simp
    rw [e]
    unfold clen Par.fill4
    omega
theorem pad4 (T v : Nat) (h : T % 4 = 0) : Par.fill4 (T + (4 + v)) - (T + (4 + v)) = Par.fill4 (4 + v) - (4 + v) := by unfold Par.fill4; omega
end Go.Proofs.Ytifdkpifambhaaa.Chu
