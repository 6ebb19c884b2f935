/-
  The document's reader: reports.
  Conditions: the numbers lie within their kinds, the cells hold them.
-/
import Derived.Test.YtmnndkhdekpecaaGreatDoorCd
import Derived.Test.YtmnndkhdekpecaaGreatDoorCf
import Derived.Test.YtmnndkhdekpecaaGreatDoorOr
namespace Go.Proofs.YtmnndkhdekpecaaGreatDoor.Chu
open Go.ChangeShapes Go.WideShapes Go.ChangeAt Go.RowKit
open Par (hidden Bytes Row Prm Prms cell_lt Cap cells_new cutA thrown form_of)
set_option linter.unusedVariables false
attribute [local go_sem ↓] execOp_ld execOp_bx execOp_st
attribute [local go_sem] run_box

/-- while the document reads: its chunk, the result's variable, the lists -/
def Ds (w wx : World) (c : Ck) : Prop := Bx wx w.heap.size c ∧ Bx wx (w.heap.size + 1) (zck 0) ∧ Below w.heap.size w wx ∧ w.heap.size + 2 ≤ wx.heap.size ∧ Lsts (w.heap.size + 2) wx c
theorem Ds.start (w : World) (c : Ck) (hl : ∀ nn w, Lsts nn w c) : Ds w ((w.alloc (.cells (cc c) 59)).alloc (.cells (cc (zck 0)) 59)) c := by
  have b2 := Bx.new (w.alloc (.cells (cc c) 59)) (zck 0)
  rw [World.size_alloc] at b2
  exact ⟨(Bx.new w c).alloc _, b2, ((Below.refl _ w).alloc (Nat.le_refl _) _).alloc (by simp) _, by simp, hl _ _⟩
theorem Ds.later {w wx wy : World} {c : Ck} (h : Ds w wx c) (hb : Below wx.heap.size wx wy) : Ds w wy c := ⟨h.1.later hb, h.2.1.later hb, h.2.2.1.trans (hb.mono h.2.2.1.size), Nat.le_trans h.2.2.2.1 hb.size, h.2.2.2.2.later hb⟩
theorem Ds.store {w wx : World} {i : Nat} {c c' : Ck} {u : Value} (h : Ds w wx c) (hx : Bx (wx.setCell ⟨w.heap.size, i, none⟩ u) w.heap.size c') (hl : Lsts (w.heap.size + 2) wx c') : Ds w (wx.setCell ⟨w.heap.size, i, none⟩ u) c' :=
  ⟨hx, h.2.1.grown (gr_set wx w.heap.size i u) (by omega), h.2.2.1.setCell (Nat.le_refl _) _, by simpa [World.setCell] using h.2.2.2.1, hl.set (by simp) _⟩
/-- the result is stored -/
theorem Ds.fin {w wx : World} {c : Ck} (h : Ds w wx c) : (ld (.pointer (some ⟨w.heap.size, 0, none⟩))).run Tryz.prog wx = .ok (cv c) wx ∧ (sto (.pointer (some ⟨w.heap.size + 1, 0, none⟩)) (cv c)).run Tryz.prog wx = .ok () (stoW wx (w.heap.size + 1) c) ∧
    Bx (stoW wx (w.heap.size + 1) c) (w.heap.size + 1) c ∧ Below w.heap.size w (stoW wx (w.heap.size + 1) c) ∧ Lsts w.heap.size (stoW wx (w.heap.size + 1) c) c := by
  have hb := stoW_below c (Below.refl (w.heap.size + 1) wx) (Nat.le_refl _)
  have hT : Tch (w.heap.size + 1) w.heap.size wx (stoW wx (w.heap.size + 1) c) := ⟨hb.os, hb.tape, hb.output, hb.size, fun k hk hB _ => other_setCells (w.heap.size + 1) k hB _ _ _⟩
  exact ⟨h.1.ld, sto_run h.2.1 c, stoW_bx h.2.1 c, stoW_below c h.2.2.1 (by omega), (h.2.2.2.2.tch (by omega) (by omega) hT).mono (by omega)⟩
theorem cell_res2 {w : World} {B p q : Nat} {c : Ck} {x : Value} {fn : Func} (h : fn.results = #[.cell p 59, .tmp q]) (hb : Bx w B c) (tmps : Array Value) (hp : tmps.getD p undef = .pointer (some ⟨B, 0, none⟩)) (hq : tmps.getD q undef = x) :
    (results fn tmps).run Tryz.prog w = .ok (.tuple #[cv c, x]) w := by
  have hp' : tmps[p]?.getD undef = .pointer (some ⟨B, 0, none⟩) := by simpa using hp
  have hq' : tmps[q]?.getD undef = x := by simpa using hq
  simp [results, h, hp', hq', asAddr, hb.load]
/-- what is told of a value -/
def RdR (w : World) (v : List Int) (k : Int) (x : Ch) (e : Ending) (w' : World) : Prop :=
  ∃ c' er y, e = .returned (.tuple #[cv c', .int .i64 er]) ∧ Fil k v x er y ∧ (er = 0 → val c' = y ∧ Lsts w.heap.size w' c') ∧ Below w.heap.size w w'
theorem rd_bad {w w' : World} {v : List Int} {k : Int} {x : Ch} {c' : Ck} {er : Int} (hf : ∀ y, Fil k v x er y) (he : er ≠ 0) (hb : Below w.heap.size w w') : RdR w v k x (.returned (.tuple #[cv c', .int .i64 er])) w' := ⟨c', er, x, rfl, hf x, fun h => absurd h he, hb⟩
theorem rd_ok {w w' : World} {v : List Int} {k : Int} {x : Ch} {c' : Ck} (hf : Fil k v x 0 (val c')) (hl : Lsts w.heap.size w' c') (hb : Below w.heap.size w w') : RdR w v k x (.returned (.tuple #[cv c', .int .i64 0])) w' := ⟨c', 0, _, rfl, hf, fun _ => ⟨rfl, hl⟩, hb⟩
/-- an append of numbers, as an operation that the walk does not open -/
def apd (ty : TypeId) (u v : Value) : Sem Value := Builtin.append_ #[56, 56] ty #[u, v]
theorem execOp_ap (ρ : Operand → Value) (dst : Option Tmp) (x y : Operand) (ty : TypeId) (pos : String) (after : Array Edge) (guard : Option (Nat × Bool)) :
    execOp ρ { dst := dst, op := .call { callee := .builtin .append, args := #[x, y], argTypes := #[56, 56] }, type := ty, pos := pos, after := after, guard := guard } = (do pure (.value (← apd ty (ρ x) (ρ y)))) := by
  unfold execOp
  simp [resolve, invoke, builtin, apd]
theorem run_apd {base k vc : Nat} {va : Option Addr} {w1 : World} {xs : List Value} (hown : w1.ownsRow base 23 1 (.slice va k vc) k xs) (hk : k ≤ 4096) (T : Int) (hb : base ≤ w1.heap.size) (ty : TypeId) :
    ∃ va' vc' w2, (apd ty (.slice va k vc) (.slice (some ⟨w1.heap.size, 0, none⟩) 1 1)).run Tryz.prog (w1.alloc (.cells #[.int .u32 T] 23)) = .ok (.slice va' (k + 1) vc') w2 ∧ w2.ownsRow base 23 1 (.slice va' (k + 1) vc') (k + 1) (xs ++ [.int .u32 T]) ∧
      (w1.alloc (.cells #[.int .u32 T] 23)).grownBy w2 (Value.slice va k vc).ownBlock ∧ ((Value.slice va' (k + 1) vc').ownBlock = (Value.slice va k vc).ownBlock ∨ (Value.slice va' (k + 1) vc').ownBlock = some (w1.heap.size + 1)) := by
  obtain ⟨i0, hi, hz0, hz1, hz2⟩ := info_parts info32
  have h1 : ∀ u ∈ [Value.int .u32 T], u.oneCell' = true := by
    intro u hu
    simp only [List.mem_cons, List.not_mem_nil, or_false] at hu
    subst hu
    rfl
  obtain ⟨v', w', hr, h2, h3, _⟩ := run_append_own (P := Tryz.prog) (w1.alloc (.cells #[.int .u32 T] 23)) base 56 ty 23 i0 (.int .u32 0) 1 4 Tryz.underlying56 hi hz0 hz1 hz2 rfl (by decide) _ _ _ (hown.alloc _) ⟨w1.heap.size, 0, none⟩ 1 1 [.int .u32 T] rfl (cells_new w1 _ 23) h1 (by unfold maxLen; omega) (by omega) (by simp; omega)
  have h5 := append_where (c := 1) (ty := ty) Tryz.underlying56 hi hz0 (by rw [hz1]; exact hown.alloc (.cells #[.int .u32 T] 23)) (by rw [hz1]; rfl) (cells_new w1 _ 23) h1 (by decide) (by unfold maxLen; omega) (by rw [hz2]; omega) hr
  rw [World.size_alloc] at h5
  obtain ⟨va', vc', rfl⟩ := form_of h2
  exact ⟨va', vc', w', hr, h2, h3, h5⟩
attribute [local go_sem ↓] execOp_ap
section
variable {a : Act} {o : Oper} {w : World}
theorem o_mv {v : Value} (x : Operand) (ho : o.op = .move x) (hx : a.eval x = v) : (execOp a.eval o).run Tryz.prog w = .ok (.value v) w := by
  unfold execOp
  rw [ho]
  simp only [hx]
  rfl
theorem o_add {p q : Int} (x y : Operand) (ho : o.op = .binOp .add 3 x y 3) (hx : a.eval x = .int .i64 p) (hy : a.eval y = .int .i64 q) : (execOp a.eval o).run Tryz.prog w = .ok (.value (.int .i64 (IntKind.i64.wrap (p + q)))) w := by
  unfold execOp
  rw [ho]
  simp only [hx, hy]
  go_simp
theorem o_mul {p q : Int} (x y : Operand) (ho : o.op = .binOp .mul 3 x y 3) (hx : a.eval x = .int .i64 p) (hy : a.eval y = .int .i64 q) : (execOp a.eval o).run Tryz.prog w = .ok (.value (.int .i64 (IntKind.i64.wrap (p * q)))) w := by
  unfold execOp
  rw [ho]
  simp only [hx, hy]
  go_simp
theorem o_get {u0 u1 u2 : Value} (x y z : Operand) (h0 : a.eval x = u0) (h1 : a.eval y = u1) (h2 : a.eval z = u2) (ho : o.op = .call { callee := .value (.func 89), args := #[x, y, z], argTypes := #[27, 3, 3] }) : (execOp a.eval o).run Tryz.prog w = .ok (.enter 89 #[u0, u1, u2]) w := by
  unfold execOp
  rw [ho]
  go_simp
  exact ⟨by cases x <;> simpa [Act.eval] using h0, by cases y <;> simpa [Act.eval] using h1, by cases z <;> simpa [Act.eval] using h2⟩
theorem o_bs {t : Int} (x : Operand) (h0 : a.eval x = .int .u32 t) (ho : o.op = .buildSlice 56 1 #[(0, x)]) : (execOp a.eval o).run Tryz.prog w = .ok (.value (.slice (some ⟨w.heap.size, 0, none⟩) 1 1)) (w.alloc (.cells #[.int .u32 t] 23)) := by
  unfold execOp
  rw [ho]
  simp only [List.map_toArray, List.map_cons, List.map_nil, h0]
  go_simp
theorem o_ap {u v r : Value} {w' : World} (x y : Operand) (h0 : a.eval x = u) (h1 : a.eval y = v) (ho : o.op = .call { callee := .builtin .append, args := #[x, y], argTypes := #[56, 56] }) (hr : (apd o.type u v).run Tryz.prog w = .ok r w') : (execOp a.eval o).run Tryz.prog w = .ok (.value r) w' := by
  obtain ⟨d, op, ty, ps, af, gd⟩ := o
  simp only at ho hr
  subst ho
  rw [execOp_ap, h0, h1]
  exact Ord.run_v hr
theorem o_st {p : Addr} {x0 : Value} (x y : Operand) (h0 : a.eval x = .pointer (some p)) {va : Option Addr} {k c : Nat} (h1 : a.eval y = .slice va k c) (ho : o.op = .store 56 x y) (hc : w.cell? p = some x0) (hz : w.frozen? p = false) : (execOp a.eval o).run Tryz.prog w = .ok .skip (w.setCell p (.slice va k c)) := by
  unfold execOp
  rw [ho]
  simp only [h0, h1]
  simp [go_sem, hc, hz]
theorem ldD (w : World) (p : Addr) (va : Option Addr) (l k : Nat) (h : w.cell? p = some (.slice va l k)) : (Instr.loadAt 56 (.pointer (some p))).run Tryz.prog w = .ok (.slice va l k) w := by simp [go_sem, h]
end
/-- the dups so far -/
def Dp (w wr : World) (c : Ck) (v : List Int) (p j : Nat) (da : Option Addr) (dc : Nat) : Prop :=
  wr.ownsRow (w.heap.size + 2) 23 1 (.slice da j dc) j (dcs (foursAt v p j)) ∧ Bx wr w.heap.size { c with da := da, dl := j, dc := dc, ds := foursAt v p j } ∧ Bx wr (w.heap.size + 1) (zck 0) ∧ Below w.heap.size w wr ∧ w.heap.size + 2 ≤ wr.heap.size ∧ Lsts (w.heap.size + 2) wr c ∧ AvC (Value.slice da j dc).ownBlock c
theorem bx_blk {w w' : World} {B : Nat} {c : Ck} {row : Option Nat} (h : Bx w B c) (hg : w.grownBy w' row) (hne : some B ≠ row) : Bx w' B c := by
  obtain ⟨_, _, _, _, a5⟩ := hg
  exact (a5 B h.lt hne).trans h
theorem Dp.start {w wr : World} {c : Ck} (v : List Int) (p : Nat) (h : Ds w wr c) (h0 : c.da = none ∧ c.dl = 0 ∧ c.dc = 0 ∧ c.ds = []) : Dp w wr c v p 0 none 0 := by
  obtain ⟨h1, h2, h3, h4⟩ := h0
  have e : ({ c with da := none, dl := 0, dc := 0, ds := foursAt v p 0 } : Ck) = c := by
    obtain ⟨⟩ := c
    simp only at h1 h2 h3 h4
    subst h1 h2 h3 h4
    rfl
  refine ⟨World.ownsRow_nil _ _ _ _, by rw [e]; exact h.1, h.2.1, h.2.2.1, h.2.2.2.1, h.2.2.2.2, avC_of h.2.2.2.2 (fun b u off _ _ e => by cases e)⟩
theorem Dp.step {w wr w3 : World} {c : Ck} {v : List Int} {p j : Nat} {da da' : Option Addr} {dc dc' : Nat} (h : Dp w wr c v p j da dc) (ho : w3.ownsRow (w.heap.size + 2) 23 1 (.slice da' (j + 1) dc') (j + 1) (dcs (foursAt v p j) ++ [.int .u32 (n4 v (p + 4 * j))]))
    (hg : (wr.drew.alloc (.cells #[.int .u32 (n4 v (p + 4 * j))] 23)).grownBy w3 (Value.slice da j dc).ownBlock) (hw : (Value.slice da' (j + 1) dc').ownBlock = (Value.slice da j dc).ownBlock ∨ (Value.slice da' (j + 1) dc').ownBlock = some (wr.drew.heap.size + 1)) :
    Dp w (w3.setCell ⟨w.heap.size, 12, none⟩ (.slice da' (j + 1) dc')) c v p (j + 1) da' dc' ∧ Bx w3 w.heap.size { c with da := da, dl := j, dc := dc, ds := foursAt v p j } ∧ Below w.heap.size w w3 := by
  obtain ⟨h1, h2, h3, h4, h5, h6, h7⟩ := h
  have hb : Below wr.heap.size wr (wr.drew.alloc (.cells #[.int .u32 (n4 v (p + 4 * j))] 23)) := (Par.below_drewN (Below.refl _ wr) 1).alloc (Nat.le_refl _) _
  have hlt : ∀ g, (Value.slice da j dc).ownBlock = some g → w.heap.size + 2 ≤ g := fun g e => (h1.lt g e).1
  have x3 : Bx w3 w.heap.size { c with da := da, dl := j, dc := dc, ds := foursAt v p j } := bx_blk (h2.later hb) hg (fun e => by have := hlt _ e.symm; omega)
  have y3 : Bx w3 (w.heap.size + 1) (zck 0) := bx_blk (h3.later hb) hg (fun e => by have := hlt _ e.symm; omega)
  have l2 := h6.later hb
  have l3 := lsts_gr l2 h7 hg
  have b3 : Below w.heap.size w w3 := (h4.trans (hb.mono h4.size)).grown hg (h4.trans (hb.mono h4.size)).size (fun g e => by have := hlt _ e; omega)
  have hs3 : w.heap.size + 2 ≤ w3.heap.size := by
    have h1 := hb.size
    obtain ⟨_, _, _, h2, _⟩ := hg
    omega
  have av : AvC (Value.slice da' (j + 1) dc').ownBlock c := by
    rcases hw with e | e
    · rw [e]; exact h7
    · rw [e]
      refine avC_of h6 (fun b u off _ hcell e => ?_)
      cases e
      have := cell_lt hcell
      have hs : wr.drew.heap.size = wr.heap.size := rfl
      simp only at this
      omega
  refine ⟨⟨?_, x3.s12 da' (j + 1) dc' (foursAt v p (j + 1)), y3.grown (gr_set w3 w.heap.size 12 _) (by omega), b3.setCell (Nat.le_refl _) _, by simpa [World.setCell] using hs3, l3.set (by simp) _, av⟩, x3, b3⟩
  rw [foursAt_succ, dcs_append]
  exact ownsRow_setCell_below ho (by simp) _
theorem Dp.fin {w wr : World} {c : Ck} {v : List Int} {p j : Nat} {da : Option Addr} {dc : Nat} (hv : Bytes v) (hj : j ≤ 4096) (h : Dp w wr c v p j da dc) : Ds w wr { c with da := da, dl := j, dc := dc, ds := foursAt v p j } := by
  obtain ⟨h1, h2, h3, h4, h5, h6, h7⟩ := h
  obtain ⟨a, cap, e, hf⟩ := fours_own hv hj h1
  cases e
  exact ⟨h2, h3, h4, h5, h6.1, h6.2.1, hf, h6.2.2.2⟩
/-- counts -/
theorem cnt_eq {v : List Int} (hv : Bytes v) (p : Nat) : n2 v p = (((n2 v p).toNat : Nat) : Int) := by have := n2_bound hv p; omega
theorem lsts_g {n : Nat} {w : World} {c : Ck} (h : Lsts n w c) {a : Option Addr} {l k : Nat} {xs : List (Int × Int)} (hg : Gaps n w a l xs) : Lsts n w { c with ga := a, gl := l, gc := k, gs := xs } := ⟨hg, h.2⟩
theorem lsts_n {n : Nat} {w : World} {c : Ck} (h : Lsts n w c) {a : Option Addr} {l k : Nat} {xs : List (Int × Int)} (hg : Gaps n w a l xs) : Lsts n w { c with na := a, nl := l, nc := k, ns := xs } := ⟨h.1, hg, h.2.2⟩
set_option maxRecDepth 20000 in
set_option maxHeartbeats 1000000 in
theorem rLists16 (base : Nat) (w : World) (a : Option Addr) (len cap : Nat) (v : List Int) (c : Ck) (hr : Row base w a len v) (hk : c.kind = 16) (hl : ∀ nn w, Lsts nn w c) (h0 : c.da = none ∧ c.dl = 0 ∧ c.dc = 0 ∧ c.ds = []) :
    Calls Tryz.prog 107 #[cv c, .slice a len cap] w fun e w' => RdR w v 16 (val c) e w' := by
  have S0 := Ds.start w c hl
  have hcc : (cc (zck 0)) = #[.int .u8 0, .int .u8 0, .int .u32 0, .int .u16 0, .int .u16 0, .int .u32 0, .int .u32 0, .int .u32 0, .int .u16 0, .int .u16 0, .slice none 0 0, .slice none 0 0, .slice none 0 0, .slice none 0 0, .slice none 0 0] := rfl
  rw [hcc] at S0
  have HS := hidden S0
  have hzl := hr.1
  have hlim := hr.2.2.1
  have HR := hidden hr
  have HBY := hidden hr.2.1
  have q0 := S0.1.c0
  rw [hk] at q0
  have HK := hidden hk
  have HC0 := hidden h0
  have HFS := hidden (show v.length < 16 → ∀ y, Fil 16 v (val c) 61 y from fun h y => by unfold Fil; rw [if_pos (show v.length < nb 16 from h)])
  have HFL := hidden (show ¬ v.length < 16 → ∀ er y, (¬ CntOk 16 v ∧ er = 3) ∨ (CntOk 16 v ∧ v.length ≠ 16 + 4 * (cG v + cN 16 v + cD 16 v) ∧ er = 61) ∨ (CntOk 16 v ∧ v.length = 16 + 4 * (cG v + cN 16 v + cD 16 v) ∧ er = 0 ∧ y = repV 16 v (val c)) → Fil 16 v (val c) er y from fun h er y h2 => by
    unfold Fil
    rw [if_neg (show ¬ v.length < nb 16 from h), if_pos (by decide)]
    exact h2)
  obtain ⟨G, hG⟩ : ∃ G : Nat, cG v = G := ⟨_, rfl⟩
  obtain ⟨N, hN⟩ : ∃ N : Nat, cN 16 v = N := ⟨_, rfl⟩
  obtain ⟨D, hD⟩ : ∃ D : Nat, cD 16 v = D := ⟨_, rfl⟩
  have e8 : n2 v 8 = (G : Int) := by rw [← hG]; exact cnt_eq HBY.out 8
  have e10 : n2 v 10 = (N : Int) := by rw [← hN]; unfold cN; rw [if_pos rfl]; exact cnt_eq HBY.out 10
  have e12 : n2 v 12 = (D : Int) := by rw [← hD]; unfold cD; rw [if_pos rfl]; exact cnt_eq HBY.out 12
  have N0 : N ≤ 65535 := by have := n2_bound HBY.out 10; omega
  have D0 : D ≤ 65535 := by have := n2_bound HBY.out 12; omega
  have G0 : G ≤ 65535 := by have := n2_bound HBY.out 8; omega
  have HREP := hidden (show repV 16 v (val c) = { val c with tsn := n4 v 0, win := n4 v 4, gs := gapsAt v 16 G, ns := gapsAt v (16 + 4 * G) N, ds := foursAt v (16 + 4 * G + 4 * N) D } by rw [← hG, ← hD, ← hN]; rfl)
  unfold CntOk at HFL
  rw [hG, hN, hD] at HFL
  have E8 := hidden e8
  have E10 := hidden e10
  have E12 := hidden e12
  clear e12
  clear S0 hcc hr hk h0 hl e8 e10 hG hN hD
  go_enter Tryz.func107, Tryz.ntmps107
  rcases Nat.lt_or_ge len 16 with hlt | hge
  · have hlt' : (len : Int) < 16 := by omega
    obtain ⟨f1, f2, f3, f4, f5⟩ := HS.out.fin
    have F3 := hidden f3
    have F4 := hidden f4
    clear f3 f4 f5
    go_wp2
    exact bodyPost_ret (cell_res2 Tryz.results107 F3.out _ rfl rfl) rfl (rd_bad (HFS.out (by omega)) (by decide) F4.out)
  have hge' : ¬ (len : Int) < 16 := by omega
  have HF := hidden (HFL.out (by omega))
  clear HFS HFL hge
  go_wp2_with fail
  clear q0
  generalize hW : World.alloc (World.alloc w (.cells (cc c) 59)) _ = W at *
  clear hW
  have T8 := rGet2 base W a len cap 8 v (HR.out.later HS.out.2.2.1) (by omega)
  rw [E8.out] at T8
  have T8 := hidden T8
  have T10 := rGet2 base W a len cap 10 v (HR.out.later HS.out.2.2.1) (by omega)
  rw [E10.out] at T10
  have T10 := hidden T10
  have T12 := rGet2 base W a len cap 12 v (HR.out.later HS.out.2.2.1) (by omega)
  rw [E12.out] at T12
  have T12 := hidden T12
  refine Calls.mono T8.out ?_
  rintro e wz ⟨rfl, rfl⟩
  go_wp2_with fail
  refine Calls.mono T10.out ?_
  rintro e wz ⟨rfl, rfl⟩
  go_wp2_with fail
  refine Calls.mono T12.out ?_
  rintro e wz ⟨rfl, rfl⟩
  by_cases hc : G ≤ 4096 ∧ N ≤ 4096 ∧ D ≤ 4096
  case neg =>
    obtain ⟨f1, f2, f3, f4, f5⟩ := HS.out.fin
    have F3 := hidden f3
    have F4 := hidden f4
    have HX := hidden (HF.out 3 · (.inl ⟨hc, rfl⟩))
    clear f3 f4 f5
    by_cases g1 : G ≤ 4096
    · have k1 : ¬ (4096 : Int) < (G : Int) := by omega
      by_cases g2 : N ≤ 4096
      · have k2 : ¬ (4096 : Int) < (N : Int) := by omega
        have k3 : (4096 : Int) < (D : Int) := by omega
        clear hc
        go_wp2
        exact bodyPost_ret (cell_res2 Tryz.results107 F3.out _ rfl rfl) rfl (rd_bad HX.out (by decide) F4.out)
      · have k2 : (4096 : Int) < (N : Int) := by omega
        clear hc
        go_wp2
        exact bodyPost_ret (cell_res2 Tryz.results107 F3.out _ rfl rfl) rfl (rd_bad HX.out (by decide) F4.out)
    · have k1 : (4096 : Int) < (G : Int) := by omega
      clear hc
      go_wp2
      exact bodyPost_ret (cell_res2 Tryz.results107 F3.out _ rfl rfl) rfl (rd_bad HX.out (by decide) F4.out)
  have HCK := hidden hc
  obtain ⟨g1, g2, g3⟩ := hc
  have k1 : ¬ (4096 : Int) < (G : Int) := by omega
  have k2 : ¬ (4096 : Int) < (N : Int) := by omega
  have k3 : ¬ (4096 : Int) < (D : Int) := by omega
  go_upto_if 53 with fail
  by_cases hl : len = 16 + 4 * (G + N + D)
  case neg =>
    obtain ⟨f1, f2, f3, f4, f5⟩ := HS.out.fin
    have F3 := hidden f3
    have F4 := hidden f4
    have HX := hidden (HF.out 61 · (.inr (.inl ⟨HCK.out, by omega, rfl⟩)))
    clear f3 f4 f5
    refine wp_cond_true (show Value.bool ((len : Int) != 16 + 4 * ((G : Int) + (N : Int) + (D : Int))) = .bool true by rw [bne_t (by omega)]) ?_
    clear hl
    go_wp2
    exact bodyPost_ret (cell_res2 Tryz.results107 F3.out _ rfl rfl) rfl (rd_bad HX.out (by decide) F4.out)
  refine wp_cond_false (show Value.bool ((len : Int) != 16 + 4 * ((G : Int) + (N : Int) + (D : Int))) = .bool false by rw [bne_f (by omega)]) ?_
  have HX := hidden (HF.out 0 _ (.inr (.inr ⟨HCK.out, by omega, rfl, rfl⟩)))
  have HLN := hidden hl
  have HLE := hidden (show 16 + 4 * G + 4 * N + 4 * D = len by omega)
  clear HF hl k1 k3 E8 E10 HCK
  clear k2 E12 T12
  have s0 := HS.out
  have q2 := s0.1.c2
  have z2 := s0.1.fr 2
  have q7 := s0.1.c7
  have z7 := s0.1.fr 7
  have s1 : Ds w (W.setCell ⟨w.heap.size, 2, none⟩ (.int .u32 (n4 v 0))) { c with tsn := n4 v 0 } := s0.store (s0.1.s2 (n4 v 0)) s0.2.2.2.2
  have s2 : Ds w ((W.setCell ⟨w.heap.size, 2, none⟩ (.int .u32 (n4 v 0))).setCell ⟨w.heap.size, 7, none⟩ (.int .u32 (n4 v 4))) { c with tsn := n4 v 0, win := n4 v 4 } := s1.store (s1.1.s7 (n4 v 4)) s1.2.2.2.2
  have HS2 := hidden s2
  clear s0 s1 s2
  go_wp2_with fail
  refine Calls.mono (rGet4 base W a len cap 0 v (HR.out.later HS.out.2.2.1) (by omega)) ?_
  rintro e wz ⟨rfl, rfl⟩
  go_wp2_with fail
  refine Calls.mono (rGet4 base W a len cap 4 v (HR.out.later HS.out.2.2.1) (by omega)) ?_
  rintro e wz ⟨rfl, rfl⟩
  have N4a := hidden (show n4 v 0 = n4 v 0 from rfl)
  go_wp2_with fail
  generalize (W.setCell ⟨w.heap.size, 2, none⟩ (.int .u32 (n4 v 0))).setCell ⟨w.heap.size, 7, none⟩ (.int .u32 (n4 v 4)) = W2 at *
  clear q2 z2 q7 z7 T8 T10
  refine Calls.mono (rBlocks base W2 a len cap 16 G v (HR.out.later HS2.out.2.2.1) g1 (by have := HLE.out; omega)) ?_
  rintro e w3 ⟨u3, rfl, ho3, b3⟩
  obtain ⟨ga, gc, rfl, hgp⟩ := gaps_own HBY.out g1 ho3
  have s3 := HS2.out.later b3
  have q10 := s3.1.c10
  have z10 := s3.1.fr 10
  have s4 := s3.store (s3.1.s10 ga G gc (gapsAt v 16 G)) (lsts_g s3.2.2.2.2 (hgp.mono HS2.out.2.2.2.1))
  have HS4 := hidden s4
  have hHG : (16 : Int) + 4 * (G : Int) = ((16 + 4 * G : Nat) : Int) := by omega
  have BL := hidden (rBlocks base _ a len cap (16 + 4 * G) N v (HR.out.later s4.2.2.1) g2 (by have := HLE.out; omega))
  rw [← hHG] at BL
  clear ho3 b3 hgp s3 s4 HS2 hHG
  go_wp2_with fail
  clear q10 z10
  generalize w3.setCell ⟨w.heap.size, 10, none⟩ (.slice ga G gc) = W4 at *
  refine Calls.mono BL.out ?_
  rintro e w5 ⟨u5, rfl, ho5, b5⟩
  obtain ⟨na, nc, rfl, hnp⟩ := gaps_own HBY.out g2 ho5
  have s5 := HS4.out.later b5
  have q11 := s5.1.c11
  have z11 := s5.1.fr 11
  have s6 := s5.store (s5.1.s11 na N nc (gapsAt v (16 + 4 * G) N)) (lsts_n s5.2.2.2.2 (hnp.mono HS4.out.2.2.2.1))
  have HS6 := hidden (Dp.start v (16 + 4 * G + 4 * N) s6 HC0.out)
  clear ho5 b5 hnp s5 s6 HS4 BL
  go_wp2_with fail
  clear q11 z11
  generalize w5.setCell ⟨w.heap.size, 11, none⟩ (.slice na N nc) = W6 at *
  generalize hc6 : ({ c with tsn := n4 v 0, win := n4 v 4, ga := ga, gl := G, gc := gc, gs := gapsAt v 16 G, na := na, nl := N, nc := nc, ns := gapsAt v (16 + 4 * G) N } : Ck) = c6 at *
  have HC6 := hidden hc6
  clear hc6
  go_loopw [11] (fun i wr => ∃ j da dc, j ≤ D ∧ i = .int .i64 ((j : Nat) : Int) ∧ Dp w wr c6 v (16 + 4 * G + 4 * N) j da dc) (fun i _ => D - (intOf i).toNat)
  case atStart => exact ⟨0, none, 0, Nat.zero_le _, rfl, HS6.out⟩
  case round =>
    obtain ⟨j, da, dc, hj, rfl, hDp⟩ := hrel
    rcases Nat.lt_or_ge j D with hlt | hge
    · have HD := hidden hDp
      have c12 := hDp.2.1.c12
      have z12 := hDp.2.1.fr 12
      have hsz := hDp.2.2.2.2.1
      have hbw := hDp.2.2.2.1
      have T4 := hidden (show ∀ x, Below w.heap.size w x → Calls Tryz.prog 89 #[.slice a len cap, .int .i64 (16 + 4 * ((G : Int) + (N : Int) + (j : Int))), .int .i64 4] x fun e w' => e = .returned (.int .u32 (n4 v (16 + 4 * G + 4 * N + 4 * j))) ∧ x = w' from fun x hx => by
        have := rGet4 base x a len cap (16 + 4 * G + 4 * N + 4 * j) v (HR.out.later hx) (by have := HLE.out; omega)
        rw [show ((16 + 4 * G + 4 * N + 4 * j : Nat) : Int) = 16 + 4 * ((G : Int) + (N : Int) + (j : Int)) by omega] at this
        exact this)
      have HB0 := hidden (show wr.drew.cell? ⟨w.heap.size, 12, none⟩ = some (.slice da j dc) ∧ wr.drew.frozen? ⟨w.heap.size, 12, none⟩ = false ∧ Below w.heap.size w wr.drew from ⟨c12, z12, Par.below_drewN hbw 1⟩)
      have HOW := hidden (hDp.1.drew)
      clear hDp hbw
      have KA := hidden (show ∀ (x : World) (o : Obj), (x.cell? ⟨w.heap.size, 12, none⟩ = some (.slice da j dc) ∧ x.frozen? ⟨w.heap.size, 12, none⟩ = false ∧ Below w.heap.size w x) → ((x.alloc o).cell? ⟨w.heap.size, 12, none⟩ = some (.slice da j dc) ∧ (x.alloc o).frozen? ⟨w.heap.size, 12, none⟩ = false ∧ Below w.heap.size w (x.alloc o)) from fun x o h => by
        have hb : Below x.heap.size x (x.alloc o) := (Below.refl _ _).alloc (Nat.le_refl _) o
        exact ⟨Par.keep_cell hb h.1, (World.frozen?_of_block (a := ⟨w.heap.size, 12, none⟩) (hb.block _ (cell_lt h.1))).trans h.2.1, h.2.2.alloc h.2.2.size o⟩)
      have hw1 : IntKind.i64.wrap ((G : Int) + (N : Int)) = (G : Int) + (N : Int) := by rw [IntKind.wrap_i64]; omega
      have hw2 : IntKind.i64.wrap ((G : Int) + (N : Int) + (j : Int)) = (G : Int) + (N : Int) + (j : Int) := by rw [IntKind.wrap_i64]; omega
      have hw3 : IntKind.i64.wrap (4 * ((G : Int) + (N : Int) + (j : Int))) = 4 * ((G : Int) + (N : Int) + (j : Int)) := by rw [IntKind.wrap_i64]; omega
      have hw4 : IntKind.i64.wrap (16 + 4 * ((G : Int) + (N : Int) + (j : Int))) = 16 + 4 * ((G : Int) + (N : Int) + (j : Int)) := by rw [IntKind.wrap_i64]; omega
      generalize hT4 : n4 v (16 + 4 * G + 4 * N + 4 * j) = t4 at *
      have HT4 := hidden hT4
      clear hT4
      go_wp2_with fail
      obtain ⟨ka1, ka2, ka3⟩ := KA.out wr.drew (.cells #[.int .u32 t4] 23) HB0.out
      clear ka3
      have HBD := hidden HB0.out.2.2
      obtain ⟨da', dc', w3, hr3, ho3, hg3, hw3'⟩ := run_apd HOW.out (by omega) t4 hsz 56
      have hr3' : (apd 56 (.slice da j dc) (.slice (some ⟨wr.heap.size, 0, none⟩) 1 1)).run Tryz.prog (wr.drew.alloc (.cells #[.int .u32 t4] 23)) = .ok (.slice da' (j + 1) dc') w3 := hr3
      clear hr3
      obtain ⟨hst, hx3, hb3⟩ := HD.out.step (by rw [HT4.out]; exact ho3) (by rw [HT4.out]; exact hg3) hw3'
      have cx3 := hx3.c12
      have zx3 := hx3.fr 12
      have HST := hidden hst
      clear ho3 hg3 hw3' hst hx3
      have hW1 : ∀ x, x = wr.drew ∨ x = wr.drew.alloc (.cells #[.int .u32 t4] 23) → x.cell? ⟨w.heap.size, 12, none⟩ = some (.slice da j dc) := by
        rintro x (rfl | rfl)
        · exact c12
        · exact ka1
      refine Ord.wp_region_det (by kernel_rfl) 95 [(some 79, .pointer (some ⟨w.heap.size, 12, none⟩)), (some 80, .slice da j dc), (some 81, .slice a len cap), (some 82, .int .i64 (16)), (some 83, .int .i64 ((G : Int))), (some 84, .int .i64 ((N : Int))), (some 85, .int .i64 ((G : Int) + (N : Int))), (some 86, .int .i64 ((j : Int))), (some 87, .int .i64 ((G : Int) + (N : Int) + (j : Int))), (some 88, .int .i64 (4 * ((G : Int) + (N : Int) + (j : Int)))), (some 89, .int .i64 (16 + 4 * ((G : Int) + (N : Int) + (j : Int)))), (some 90, .int .u32 t4), (some 91, .slice (some ⟨wr.heap.size, 0, none⟩) 1 1), (some 92, .slice da' (j + 1) dc'), (some 93, .pointer (some ⟨w.heap.size, 12, none⟩)), (none, undef)] rfl (by kernel_rfl) (by rfl) (by kernel_rfl)
        (fun L x => x = (if L 15 = true then w3.setCell ⟨w.heap.size, 12, none⟩ (.slice da' (j + 1) dc') else if L 13 = true then w3 else if L 12 = true then wr.drew.alloc (.cells #[.int .u32 t4] 23) else wr.drew)) (fun L L' x h hx => by rw [hx, h 12 (by decide), h 13 (by decide), h 15 (by decide)]) ?_ ?_ rfl
      case refine_1 =>
        intro L i o ac w' ho hi hcl hdep hF hW
        obtain ⟨f1, f2, f3, f4⟩ := hF
        match i, ho, hi with
        | 0, ho, hi =>
          cases ho
          have dk0 : ac.eval (.tmp 2) = .pointer (some ⟨w.heap.size, 0, none⟩) := f3 2 rfl
          exact Ord.det_value rfl rfl (e_fa _ dk0 rfl (fa12 _ _)) rfl (by simpa [Ord.upd] using hW)
        | 1, ho, hi =>
          cases ho
          have da0 : ac.eval (.tmp 79) = .pointer (some ⟨w.heap.size, 12, none⟩) := f4 0 79 _ rfl (hdep ⟨0, .data⟩ (by simp) rfl)
          have l13 : L 13 = false := by
            cases h : L 13 with
            | false => rfl
            | true => exact absurd (hcl 13 _ rfl h ⟨1, .data⟩ (by simp) rfl) (by rw [hi]; decide)
          have l15 : L 15 = false := by
            cases h : L 15 with
            | false => rfl
            | true => exact absurd (hcl 15 _ rfl h ⟨13, .data⟩ (by simp) rfl) (by rw [l13]; decide)
          have hw' : w' = wr.drew ∨ w' = wr.drew.alloc (.cells #[.int .u32 t4] 23) := by
            rw [hW, l13, l15]
            cases L 12 <;> simp
          exact Ord.det_value rfl rfl (e_ld _ da0 rfl (ldD _ _ _ _ _ (hW1 _ hw'))) rfl (by simpa [Ord.upd] using hW)
        | 2, ho, hi =>
          cases ho
          have dk0 : ac.eval (.tmp 1) = .slice a len cap := f3 1 rfl
          exact Ord.det_value rfl rfl (o_mv _ rfl dk0) rfl (by simpa [Ord.upd] using hW)
        | 3, ho, hi =>
          cases ho
          have dk0 : ac.eval (.tmp 7) = .int .i64 (16) := f3 7 rfl
          exact Ord.det_value rfl rfl (o_mv _ rfl dk0) rfl (by simpa [Ord.upd] using hW)
        | 4, ho, hi =>
          cases ho
          have dk0 : ac.eval (.tmp 8) = .int .i64 ((G : Int)) := f3 8 rfl
          exact Ord.det_value rfl rfl (o_mv _ rfl dk0) rfl (by simpa [Ord.upd] using hW)
        | 5, ho, hi =>
          cases ho
          have dk0 : ac.eval (.tmp 9) = .int .i64 ((N : Int)) := f3 9 rfl
          exact Ord.det_value rfl rfl (o_mv _ rfl dk0) rfl (by simpa [Ord.upd] using hW)
        | 6, ho, hi =>
          cases ho
          have da0 : ac.eval (.tmp 83) = .int .i64 ((G : Int)) := f4 4 83 _ rfl (hdep ⟨4, .data⟩ (by simp) rfl)
          have da1 : ac.eval (.tmp 84) = .int .i64 ((N : Int)) := f4 5 84 _ rfl (hdep ⟨5, .data⟩ (by simp) rfl)
          exact Ord.det_value rfl rfl (o_add _ _ rfl da0 da1) (by rw [hw1]; rfl) (by simpa [Ord.upd] using hW)
        | 7, ho, hi =>
          cases ho
          have dk0 : ac.eval (.tmp 11) = .int .i64 ((j : Int)) := f3 11 rfl
          exact Ord.det_value rfl rfl (o_mv _ rfl dk0) rfl (by simpa [Ord.upd] using hW)
        | 8, ho, hi =>
          cases ho
          have da0 : ac.eval (.tmp 85) = .int .i64 ((G : Int) + (N : Int)) := f4 6 85 _ rfl (hdep ⟨6, .data⟩ (by simp) rfl)
          have da1 : ac.eval (.tmp 86) = .int .i64 ((j : Int)) := f4 7 86 _ rfl (hdep ⟨7, .data⟩ (by simp) rfl)
          exact Ord.det_value rfl rfl (o_add _ _ rfl da0 da1) (by rw [hw2]; rfl) (by simpa [Ord.upd] using hW)
        | 9, ho, hi =>
          cases ho
          have da0 : ac.eval (.tmp 87) = .int .i64 ((G : Int) + (N : Int) + (j : Int)) := f4 8 87 _ rfl (hdep ⟨8, .data⟩ (by simp) rfl)
          exact Ord.det_value rfl rfl (o_mul (p := 4) (.const (.int .i64 4)) _ rfl rfl da0) (by rw [hw3]; rfl) (by simpa [Ord.upd] using hW)
        | 10, ho, hi =>
          cases ho
          have da0 : ac.eval (.tmp 82) = .int .i64 (16) := f4 3 82 _ rfl (hdep ⟨3, .data⟩ (by simp) rfl)
          have da1 : ac.eval (.tmp 88) = .int .i64 (4 * ((G : Int) + (N : Int) + (j : Int))) := f4 9 88 _ rfl (hdep ⟨9, .data⟩ (by simp) rfl)
          exact Ord.det_value rfl rfl (o_add _ _ rfl da0 da1) (by rw [hw4]; rfl) (by simpa [Ord.upd] using hW)
        | 11, ho, hi =>
          cases ho
          have da0 : ac.eval (.tmp 81) = .slice a len cap := f4 2 81 _ rfl (hdep ⟨2, .data⟩ (by simp) rfl)
          have da1 : ac.eval (.tmp 89) = .int .i64 (16 + 4 * ((G : Int) + (N : Int) + (j : Int))) := f4 10 89 _ rfl (hdep ⟨10, .data⟩ (by simp) rfl)
          have bw : Below w.heap.size w w' := by
            rw [hW]
            split
            · exact Below.setCell hb3 (Nat.le_refl _) _
            split
            · exact hb3
            split
            · exact (KA.out wr.drew (.cells #[.int .u32 t4] 23) HB0.out).2.2
            · exact HB0.out.2.2
          refine Ord.det_call rfl rfl (o_get _ _ (.const (.int .i64 4)) da0 da1 rfl rfl) (Calls.mono (T4.out _ bw) ?_)
          rintro e w4 ⟨rfl, rfl⟩
          exact ⟨rfl, by simpa [Ord.upd] using hW⟩
        | 12, ho, hi =>
          cases ho
          have da0 : ac.eval (.tmp 90) = .int .u32 t4 := f4 11 90 _ rfl (hdep ⟨11, .data⟩ (by simp) rfl)
          have l13 : L 13 = false := by
            cases h : L 13 with
            | false => rfl
            | true => exact absurd (hcl 13 _ rfl h ⟨12, .data⟩ (by simp) rfl) (by rw [hi]; decide)
          have l15 : L 15 = false := by
            cases h : L 15 with
            | false => rfl
            | true => exact absurd (hcl 15 _ rfl h ⟨13, .data⟩ (by simp) rfl) (by rw [l13]; decide)
          have hw' : w' = wr.drew := by
            rw [hW, l13, l15, hi]
            simp
          subst hw'
          exact Ord.det_value rfl rfl (o_bs _ da0 rfl) rfl (by simp [Ord.upd, l13, l15])
        | 13, ho, hi =>
          cases ho
          have da0 : ac.eval (.tmp 80) = .slice da j dc := f4 1 80 _ rfl (hdep ⟨1, .data⟩ (by simp) rfl)
          have da1 : ac.eval (.tmp 91) = .slice (some ⟨wr.heap.size, 0, none⟩) 1 1 := f4 12 91 _ rfl (hdep ⟨12, .data⟩ (by simp) rfl)
          have l12 : L 12 = true := hdep ⟨12, .data⟩ (by simp) rfl
          have l15 : L 15 = false := by
            cases h : L 15 with
            | false => rfl
            | true => exact absurd (hcl 15 _ rfl h ⟨13, .data⟩ (by simp) rfl) (by rw [hi]; decide)
          have hw' : w' = wr.drew.alloc (.cells #[.int .u32 t4] 23) := by
            rw [hW, l12, l15, hi]
            simp
          subst hw'
          exact Ord.det_value rfl rfl (o_ap _ _ da0 da1 rfl hr3') rfl (by simp [Ord.upd, l15])
        | 14, ho, hi =>
          cases ho
          have dk0 : ac.eval (.tmp 2) = .pointer (some ⟨w.heap.size, 0, none⟩) := f3 2 rfl
          exact Ord.det_value rfl rfl (e_fa _ dk0 rfl (fa12 _ _)) rfl (by simpa [Ord.upd] using hW)
        | 15, ho, hi =>
          cases ho
          have da0 : ac.eval (.tmp 93) = .pointer (some ⟨w.heap.size, 12, none⟩) := f4 14 93 _ rfl (hdep ⟨14, .data⟩ (by simp) rfl)
          have da1 : ac.eval (.tmp 92) = .slice da' (j + 1) dc' := f4 13 92 _ rfl (hdep ⟨13, .data⟩ (by simp) rfl)
          have l13 : L 13 = true := hdep ⟨13, .data⟩ (by simp) rfl
          have hw' : w' = w3 := by
            rw [hW, l13, hi]
            simp
          subst hw'
          exact Ord.det_skip rfl rfl (o_st _ _ da0 da1 rfl cx3 zx3) rfl (by simp [Ord.upd])
      case refine_2 =>
        intro w' hW
        simp only [if_true] at hW
        subst hW
        clear hW1 ka1 ka2 HB0 KA HOW T4 HBD HD c12 z12 cx3 zx3 hr3'
        simp only [Ord.puts, Ord.prs, List.filterMap_cons, List.filterMap_nil, Option.map_some, Option.map_none, List.foldl_cons, List.foldl_nil]
        go_simp
        go_wp2
        go_roundw
        case rel => exact ⟨j + 1, da', dc', by omega, by go_num, HST.out⟩
        case measure => simp [intOf]; omega
    · obtain rfl : j = D := by omega
      have hF := hDp.fin HBY.out g3
      obtain ⟨f1, f2, f3, f4, f5⟩ := hF.fin
      have F3 := hidden f3
      have F4 := hidden f4
      have F5 := hidden f5
      clear f3 f4 f5 hF hDp
      generalize hcf : ({ c6 with da := da, dl := j, dc := dc, ds := foursAt v (16 + 4 * G + 4 * N) j } : Ck) = cf at *
      have HVC := hidden (show val cf = repV 16 v (val c) by rw [HREP.out, ← hcf, ← HC6.out]; rfl)
      clear hcf
      go_wp2
      exact bodyPost_ret (cell_res2 Tryz.results107 F3.out _ rfl rfl) rfl (rd_ok (by rw [HVC.out]; exact HX.out) F5.out F4.out)
set_option maxRecDepth 20000 in
set_option maxHeartbeats 1000000 in
theorem rLists3 (base : Nat) (w : World) (a : Option Addr) (len cap : Nat) (v : List Int) (c : Ck) (hr : Row base w a len v) (hk : c.kind = 3) (hl : ∀ nn w, Lsts nn w c) (h0 : c.da = none ∧ c.dl = 0 ∧ c.dc = 0 ∧ c.ds = []) :
    Calls Tryz.prog 107 #[cv c, .slice a len cap] w fun e w' => RdR w v 3 (val c) e w' := by
  have S0 := Ds.start w c hl
  have hcc : (cc (zck 0)) = #[.int .u8 0, .int .u8 0, .int .u32 0, .int .u16 0, .int .u16 0, .int .u32 0, .int .u32 0, .int .u32 0, .int .u16 0, .int .u16 0, .slice none 0 0, .slice none 0 0, .slice none 0 0, .slice none 0 0, .slice none 0 0] := rfl
  rw [hcc] at S0
  have HS := hidden S0
  have hzl := hr.1
  have hlim := hr.2.2.1
  have HR := hidden hr
  have HBY := hidden hr.2.1
  have q0 := S0.1.c0
  rw [hk] at q0
  have HK := hidden hk
  have HC0 := hidden h0
  have HFS := hidden (show v.length < 12 → ∀ y, Fil 3 v (val c) 61 y from fun h y => by unfold Fil; rw [if_pos (show v.length < nb 3 from h)])
  have HFL := hidden (show ¬ v.length < 12 → ∀ er y, (¬ CntOk 3 v ∧ er = 3) ∨ (CntOk 3 v ∧ v.length ≠ 12 + 4 * (cG v + cN 3 v + cD 3 v) ∧ er = 61) ∨ (CntOk 3 v ∧ v.length = 12 + 4 * (cG v + cN 3 v + cD 3 v) ∧ er = 0 ∧ y = repV 3 v (val c)) → Fil 3 v (val c) er y from fun h er y h2 => by
    unfold Fil
    rw [if_neg (show ¬ v.length < nb 3 from h), if_pos (by decide)]
    exact h2)
  obtain ⟨G, hG⟩ : ∃ G : Nat, cG v = G := ⟨_, rfl⟩
  obtain ⟨N, hN⟩ : ∃ N : Nat, cN 3 v = N := ⟨_, rfl⟩
  obtain ⟨D, hD⟩ : ∃ D : Nat, cD 3 v = D := ⟨_, rfl⟩
  have e8 : n2 v 8 = (G : Int) := by rw [← hG]; exact cnt_eq HBY.out 8
  have e10 : n2 v 10 = (D : Int) := by rw [← hD]; unfold cD; rw [if_neg (by decide)]; exact cnt_eq HBY.out 10
  obtain rfl : N = 0 := by rw [← hN]; simp [cN]
  have D0 : D ≤ 65535 := by have := n2_bound HBY.out 10; omega
  have G0 : G ≤ 65535 := by have := n2_bound HBY.out 8; omega
  have HREP := hidden (show repV 3 v (val c) = { val c with tsn := n4 v 0, win := n4 v 4, gs := gapsAt v 12 G, ns := gapsAt v (12 + 4 * G) 0, ds := foursAt v (12 + 4 * G + 4 * 0) D } by rw [← hG, ← hD]; rfl)
  unfold CntOk at HFL
  rw [hG, hN, hD] at HFL
  have E8 := hidden e8
  have E10 := hidden e10
  clear S0 hcc hr hk h0 hl e8 e10 hG hN hD
  go_enter Tryz.func107, Tryz.ntmps107
  rcases Nat.lt_or_ge len 12 with hlt | hge
  · have hlt' : (len : Int) < 12 := by omega
    obtain ⟨f1, f2, f3, f4, f5⟩ := HS.out.fin
    have F3 := hidden f3
    have F4 := hidden f4
    clear f3 f4 f5
    go_wp2
    exact bodyPost_ret (cell_res2 Tryz.results107 F3.out _ rfl rfl) rfl (rd_bad (HFS.out (by omega)) (by decide) F4.out)
  have hge' : ¬ (len : Int) < 12 := by omega
  have HF := hidden (HFL.out (by omega))
  clear HFS HFL hge
  go_wp2_with fail
  clear q0
  generalize hW : World.alloc (World.alloc w (.cells (cc c) 59)) _ = W at *
  clear hW
  have T8 := rGet2 base W a len cap 8 v (HR.out.later HS.out.2.2.1) (by omega)
  rw [E8.out] at T8
  have T8 := hidden T8
  have T10 := rGet2 base W a len cap 10 v (HR.out.later HS.out.2.2.1) (by omega)
  rw [E10.out] at T10
  have T10 := hidden T10
  refine Calls.mono T8.out ?_
  rintro e wz ⟨rfl, rfl⟩
  go_wp2_with fail
  refine Calls.mono T10.out ?_
  rintro e wz ⟨rfl, rfl⟩
  by_cases hc : G ≤ 4096 ∧ 0 ≤ 4096 ∧ D ≤ 4096
  case neg =>
    obtain ⟨f1, f2, f3, f4, f5⟩ := HS.out.fin
    have F3 := hidden f3
    have F4 := hidden f4
    have HX := hidden (HF.out 3 · (.inl ⟨hc, rfl⟩))
    clear f3 f4 f5
    by_cases g1 : G ≤ 4096
    · have k1 : ¬ (4096 : Int) < (G : Int) := by omega
      have k3 : (4096 : Int) < (D : Int) := by omega
      clear hc
      go_wp2
      exact bodyPost_ret (cell_res2 Tryz.results107 F3.out _ rfl rfl) rfl (rd_bad HX.out (by decide) F4.out)
    · have k1 : (4096 : Int) < (G : Int) := by omega
      clear hc
      go_wp2
      exact bodyPost_ret (cell_res2 Tryz.results107 F3.out _ rfl rfl) rfl (rd_bad HX.out (by decide) F4.out)
  have HCK := hidden hc
  obtain ⟨g1, g2, g3⟩ := hc
  have k1 : ¬ (4096 : Int) < (G : Int) := by omega
  have k3 : ¬ (4096 : Int) < (D : Int) := by omega
  go_upto_if 53 with fail
  by_cases hl : len = 12 + 4 * (G + 0 + D)
  case neg =>
    obtain ⟨f1, f2, f3, f4, f5⟩ := HS.out.fin
    have F3 := hidden f3
    have F4 := hidden f4
    have HX := hidden (HF.out 61 · (.inr (.inl ⟨HCK.out, by omega, rfl⟩)))
    clear f3 f4 f5
    refine wp_cond_true (show Value.bool ((len : Int) != 12 + 4 * ((G : Int) + (D : Int))) = .bool true by rw [bne_t (by omega)]) ?_
    clear hl
    go_wp2
    exact bodyPost_ret (cell_res2 Tryz.results107 F3.out _ rfl rfl) rfl (rd_bad HX.out (by decide) F4.out)
  refine wp_cond_false (show Value.bool ((len : Int) != 12 + 4 * ((G : Int) + (D : Int))) = .bool false by rw [bne_f (by omega)]) ?_
  have HX := hidden (HF.out 0 _ (.inr (.inr ⟨HCK.out, by omega, rfl, rfl⟩)))
  have HLN := hidden hl
  have HLE := hidden (show 12 + 4 * G + 4 * 0 + 4 * D = len by omega)
  clear HF hl k1 k3 E8 E10 HCK
  have s0 := HS.out
  have q2 := s0.1.c2
  have z2 := s0.1.fr 2
  have q7 := s0.1.c7
  have z7 := s0.1.fr 7
  have s1 : Ds w (W.setCell ⟨w.heap.size, 2, none⟩ (.int .u32 (n4 v 0))) { c with tsn := n4 v 0 } := s0.store (s0.1.s2 (n4 v 0)) s0.2.2.2.2
  have s2 : Ds w ((W.setCell ⟨w.heap.size, 2, none⟩ (.int .u32 (n4 v 0))).setCell ⟨w.heap.size, 7, none⟩ (.int .u32 (n4 v 4))) { c with tsn := n4 v 0, win := n4 v 4 } := s1.store (s1.1.s7 (n4 v 4)) s1.2.2.2.2
  have HS2 := hidden s2
  clear s0 s1 s2
  go_wp2_with fail
  refine Calls.mono (rGet4 base W a len cap 0 v (HR.out.later HS.out.2.2.1) (by omega)) ?_
  rintro e wz ⟨rfl, rfl⟩
  go_wp2_with fail
  refine Calls.mono (rGet4 base W a len cap 4 v (HR.out.later HS.out.2.2.1) (by omega)) ?_
  rintro e wz ⟨rfl, rfl⟩
  have N4a := hidden (show n4 v 0 = n4 v 0 from rfl)
  go_wp2_with fail
  generalize (W.setCell ⟨w.heap.size, 2, none⟩ (.int .u32 (n4 v 0))).setCell ⟨w.heap.size, 7, none⟩ (.int .u32 (n4 v 4)) = W2 at *
  clear q2 z2 q7 z7 T8 T10
  refine Calls.mono (rBlocks base W2 a len cap 12 G v (HR.out.later HS2.out.2.2.1) g1 (by have := HLE.out; omega)) ?_
  rintro e w3 ⟨u3, rfl, ho3, b3⟩
  obtain ⟨ga, gc, rfl, hgp⟩ := gaps_own HBY.out g1 ho3
  have s3 := HS2.out.later b3
  have q10 := s3.1.c10
  have z10 := s3.1.fr 10
  have s4 := s3.store (s3.1.s10 ga G gc (gapsAt v 12 G)) (lsts_g s3.2.2.2.2 (hgp.mono HS2.out.2.2.2.1))
  have HS4 := hidden s4
  have hHG : (12 : Int) + 4 * (G : Int) = ((12 + 4 * G : Nat) : Int) := by omega
  have BL := hidden (rBlocks base _ a len cap (12 + 4 * G) 0 v (HR.out.later s4.2.2.1) g2 (by have := HLE.out; omega))
  rw [← hHG] at BL
  clear ho3 b3 hgp s3 s4 HS2 hHG
  go_wp2_with fail
  clear q10 z10
  generalize w3.setCell ⟨w.heap.size, 10, none⟩ (.slice ga G gc) = W4 at *
  refine Calls.mono BL.out ?_
  rintro e w5 ⟨u5, rfl, ho5, b5⟩
  obtain ⟨na, nc, rfl, hnp⟩ := gaps_own HBY.out g2 ho5
  have s5 := HS4.out.later b5
  have q11 := s5.1.c11
  have z11 := s5.1.fr 11
  have s6 := s5.store (s5.1.s11 na 0 nc (gapsAt v (12 + 4 * G) 0)) (lsts_n s5.2.2.2.2 (hnp.mono HS4.out.2.2.2.1))
  have HS6 := hidden (Dp.start v (12 + 4 * G + 4 * 0) s6 HC0.out)
  clear ho5 b5 hnp s5 s6 HS4 BL
  go_wp2_with fail
  clear q11 z11
  generalize w5.setCell ⟨w.heap.size, 11, none⟩ (.slice na 0 nc) = W6 at *
  generalize hc6 : ({ c with tsn := n4 v 0, win := n4 v 4, ga := ga, gl := G, gc := gc, gs := gapsAt v 12 G, na := na, nl := 0, nc := nc, ns := gapsAt v (12 + 4 * G) 0 } : Ck) = c6 at *
  have HC6 := hidden hc6
  clear hc6
  go_loopw [11] (fun i wr => ∃ j da dc, j ≤ D ∧ i = .int .i64 ((j : Nat) : Int) ∧ Dp w wr c6 v (12 + 4 * G + 4 * 0) j da dc) (fun i _ => D - (intOf i).toNat)
  case atStart => exact ⟨0, none, 0, Nat.zero_le _, rfl, HS6.out⟩
  case round =>
    obtain ⟨j, da, dc, hj, rfl, hDp⟩ := hrel
    rcases Nat.lt_or_ge j D with hlt | hge
    · have HD := hidden hDp
      have c12 := hDp.2.1.c12
      have z12 := hDp.2.1.fr 12
      have hsz := hDp.2.2.2.2.1
      have hbw := hDp.2.2.2.1
      have T4 := hidden (show ∀ x, Below w.heap.size w x → Calls Tryz.prog 89 #[.slice a len cap, .int .i64 (12 + 4 * ((G : Int) + (j : Int))), .int .i64 4] x fun e w' => e = .returned (.int .u32 (n4 v (12 + 4 * G + 4 * 0 + 4 * j))) ∧ x = w' from fun x hx => by
        have := rGet4 base x a len cap (12 + 4 * G + 4 * 0 + 4 * j) v (HR.out.later hx) (by have := HLE.out; omega)
        rw [show ((12 + 4 * G + 4 * 0 + 4 * j : Nat) : Int) = 12 + 4 * ((G : Int) + (j : Int)) by omega] at this
        exact this)
      have HB0 := hidden (show wr.drew.cell? ⟨w.heap.size, 12, none⟩ = some (.slice da j dc) ∧ wr.drew.frozen? ⟨w.heap.size, 12, none⟩ = false ∧ Below w.heap.size w wr.drew from ⟨c12, z12, Par.below_drewN hbw 1⟩)
      have HOW := hidden (hDp.1.drew)
      clear hDp hbw
      have KA := hidden (show ∀ (x : World) (o : Obj), (x.cell? ⟨w.heap.size, 12, none⟩ = some (.slice da j dc) ∧ x.frozen? ⟨w.heap.size, 12, none⟩ = false ∧ Below w.heap.size w x) → ((x.alloc o).cell? ⟨w.heap.size, 12, none⟩ = some (.slice da j dc) ∧ (x.alloc o).frozen? ⟨w.heap.size, 12, none⟩ = false ∧ Below w.heap.size w (x.alloc o)) from fun x o h => by
        have hb : Below x.heap.size x (x.alloc o) := (Below.refl _ _).alloc (Nat.le_refl _) o
        exact ⟨Par.keep_cell hb h.1, (World.frozen?_of_block (a := ⟨w.heap.size, 12, none⟩) (hb.block _ (cell_lt h.1))).trans h.2.1, h.2.2.alloc h.2.2.size o⟩)
      have hw1 : IntKind.i64.wrap (G : Int) = (G : Int) := by rw [IntKind.wrap_i64]; omega
      have hw2 : IntKind.i64.wrap ((G : Int) + (j : Int)) = (G : Int) + (j : Int) := by rw [IntKind.wrap_i64]; omega
      have hw3 : IntKind.i64.wrap (4 * ((G : Int) + (j : Int))) = 4 * ((G : Int) + (j : Int)) := by rw [IntKind.wrap_i64]; omega
      have hw4 : IntKind.i64.wrap (12 + 4 * ((G : Int) + (j : Int))) = 12 + 4 * ((G : Int) + (j : Int)) := by rw [IntKind.wrap_i64]; omega
      generalize hT4 : n4 v (12 + 4 * G + 4 * 0 + 4 * j) = t4 at *
      have HT4 := hidden hT4
      clear hT4
      go_wp2_with fail
      obtain ⟨ka1, ka2, ka3⟩ := KA.out wr.drew (.cells #[.int .u32 t4] 23) HB0.out
      clear ka3
      have HBD := hidden HB0.out.2.2
      obtain ⟨da', dc', w3, hr3, ho3, hg3, hw3'⟩ := run_apd HOW.out (by omega) t4 hsz 56
      have hr3' : (apd 56 (.slice da j dc) (.slice (some ⟨wr.heap.size, 0, none⟩) 1 1)).run Tryz.prog (wr.drew.alloc (.cells #[.int .u32 t4] 23)) = .ok (.slice da' (j + 1) dc') w3 := hr3
      clear hr3
      obtain ⟨hst, hx3, hb3⟩ := HD.out.step (by rw [HT4.out]; exact ho3) (by rw [HT4.out]; exact hg3) hw3'
      have cx3 := hx3.c12
      have zx3 := hx3.fr 12
      have HST := hidden hst
      clear ho3 hg3 hw3' hst hx3
      have hW1 : ∀ x, x = wr.drew ∨ x = wr.drew.alloc (.cells #[.int .u32 t4] 23) → x.cell? ⟨w.heap.size, 12, none⟩ = some (.slice da j dc) := by
        rintro x (rfl | rfl)
        · exact c12
        · exact ka1
      refine Ord.wp_region_det (by kernel_rfl) 95 [(some 79, .pointer (some ⟨w.heap.size, 12, none⟩)), (some 80, .slice da j dc), (some 81, .slice a len cap), (some 82, .int .i64 (12)), (some 83, .int .i64 ((G : Int))), (some 84, .int .i64 (0)), (some 85, .int .i64 ((G : Int))), (some 86, .int .i64 ((j : Int))), (some 87, .int .i64 ((G : Int) + (j : Int))), (some 88, .int .i64 (4 * ((G : Int) + (j : Int)))), (some 89, .int .i64 (12 + 4 * ((G : Int) + (j : Int)))), (some 90, .int .u32 t4), (some 91, .slice (some ⟨wr.heap.size, 0, none⟩) 1 1), (some 92, .slice da' (j + 1) dc'), (some 93, .pointer (some ⟨w.heap.size, 12, none⟩)), (none, undef)] rfl (by kernel_rfl) (by rfl) (by kernel_rfl)
        (fun L x => x = (if L 15 = true then w3.setCell ⟨w.heap.size, 12, none⟩ (.slice da' (j + 1) dc') else if L 13 = true then w3 else if L 12 = true then wr.drew.alloc (.cells #[.int .u32 t4] 23) else wr.drew)) (fun L L' x h hx => by rw [hx, h 12 (by decide), h 13 (by decide), h 15 (by decide)]) ?_ ?_ rfl
      case refine_1 =>
        intro L i o ac w' ho hi hcl hdep hF hW
        obtain ⟨f1, f2, f3, f4⟩ := hF
        match i, ho, hi with
        | 0, ho, hi =>
          cases ho
          have dk0 : ac.eval (.tmp 2) = .pointer (some ⟨w.heap.size, 0, none⟩) := f3 2 rfl
          exact Ord.det_value rfl rfl (e_fa _ dk0 rfl (fa12 _ _)) rfl (by simpa [Ord.upd] using hW)
        | 1, ho, hi =>
          cases ho
          have da0 : ac.eval (.tmp 79) = .pointer (some ⟨w.heap.size, 12, none⟩) := f4 0 79 _ rfl (hdep ⟨0, .data⟩ (by simp) rfl)
          have l13 : L 13 = false := by
            cases h : L 13 with
            | false => rfl
            | true => exact absurd (hcl 13 _ rfl h ⟨1, .data⟩ (by simp) rfl) (by rw [hi]; decide)
          have l15 : L 15 = false := by
            cases h : L 15 with
            | false => rfl
            | true => exact absurd (hcl 15 _ rfl h ⟨13, .data⟩ (by simp) rfl) (by rw [l13]; decide)
          have hw' : w' = wr.drew ∨ w' = wr.drew.alloc (.cells #[.int .u32 t4] 23) := by
            rw [hW, l13, l15]
            cases L 12 <;> simp
          exact Ord.det_value rfl rfl (e_ld _ da0 rfl (ldD _ _ _ _ _ (hW1 _ hw'))) rfl (by simpa [Ord.upd] using hW)
        | 2, ho, hi =>
          cases ho
          have dk0 : ac.eval (.tmp 1) = .slice a len cap := f3 1 rfl
          exact Ord.det_value rfl rfl (o_mv _ rfl dk0) rfl (by simpa [Ord.upd] using hW)
        | 3, ho, hi =>
          cases ho
          have dk0 : ac.eval (.tmp 7) = .int .i64 (12) := f3 7 rfl
          exact Ord.det_value rfl rfl (o_mv _ rfl dk0) rfl (by simpa [Ord.upd] using hW)
        | 4, ho, hi =>
          cases ho
          have dk0 : ac.eval (.tmp 8) = .int .i64 ((G : Int)) := f3 8 rfl
          exact Ord.det_value rfl rfl (o_mv _ rfl dk0) rfl (by simpa [Ord.upd] using hW)
        | 5, ho, hi =>
          cases ho
          have dk0 : ac.eval (.tmp 9) = .int .i64 (0) := f3 9 rfl
          exact Ord.det_value rfl rfl (o_mv _ rfl dk0) rfl (by simpa [Ord.upd] using hW)
        | 6, ho, hi =>
          cases ho
          have da0 : ac.eval (.tmp 83) = .int .i64 ((G : Int)) := f4 4 83 _ rfl (hdep ⟨4, .data⟩ (by simp) rfl)
          have da1 : ac.eval (.tmp 84) = .int .i64 (0) := f4 5 84 _ rfl (hdep ⟨5, .data⟩ (by simp) rfl)
          exact Ord.det_value rfl rfl (o_add _ _ rfl da0 da1) (by rw [Int.add_zero, hw1]; rfl) (by simpa [Ord.upd] using hW)
        | 7, ho, hi =>
          cases ho
          have dk0 : ac.eval (.tmp 11) = .int .i64 ((j : Int)) := f3 11 rfl
          exact Ord.det_value rfl rfl (o_mv _ rfl dk0) rfl (by simpa [Ord.upd] using hW)
        | 8, ho, hi =>
          cases ho
          have da0 : ac.eval (.tmp 85) = .int .i64 ((G : Int)) := f4 6 85 _ rfl (hdep ⟨6, .data⟩ (by simp) rfl)
          have da1 : ac.eval (.tmp 86) = .int .i64 ((j : Int)) := f4 7 86 _ rfl (hdep ⟨7, .data⟩ (by simp) rfl)
          exact Ord.det_value rfl rfl (o_add _ _ rfl da0 da1) (by rw [hw2]; rfl) (by simpa [Ord.upd] using hW)
        | 9, ho, hi =>
          cases ho
          have da0 : ac.eval (.tmp 87) = .int .i64 ((G : Int) + (j : Int)) := f4 8 87 _ rfl (hdep ⟨8, .data⟩ (by simp) rfl)
          exact Ord.det_value rfl rfl (o_mul (p := 4) (.const (.int .i64 4)) _ rfl rfl da0) (by rw [hw3]; rfl) (by simpa [Ord.upd] using hW)
        | 10, ho, hi =>
          cases ho
          have da0 : ac.eval (.tmp 82) = .int .i64 (12) := f4 3 82 _ rfl (hdep ⟨3, .data⟩ (by simp) rfl)
          have da1 : ac.eval (.tmp 88) = .int .i64 (4 * ((G : Int) + (j : Int))) := f4 9 88 _ rfl (hdep ⟨9, .data⟩ (by simp) rfl)
          exact Ord.det_value rfl rfl (o_add _ _ rfl da0 da1) (by rw [hw4]; rfl) (by simpa [Ord.upd] using hW)
        | 11, ho, hi =>
          cases ho
          have da0 : ac.eval (.tmp 81) = .slice a len cap := f4 2 81 _ rfl (hdep ⟨2, .data⟩ (by simp) rfl)
          have da1 : ac.eval (.tmp 89) = .int .i64 (12 + 4 * ((G : Int) + (j : Int))) := f4 10 89 _ rfl (hdep ⟨10, .data⟩ (by simp) rfl)
          have bw : Below w.heap.size w w' := by
            rw [hW]
            split
            · exact Below.setCell hb3 (Nat.le_refl _) _
            split
            · exact hb3
            split
            · exact (KA.out wr.drew (.cells #[.int .u32 t4] 23) HB0.out).2.2
            · exact HB0.out.2.2
          refine Ord.det_call rfl rfl (o_get _ _ (.const (.int .i64 4)) da0 da1 rfl rfl) (Calls.mono (T4.out _ bw) ?_)
          rintro e w4 ⟨rfl, rfl⟩
          exact ⟨rfl, by simpa [Ord.upd] using hW⟩
        | 12, ho, hi =>
          cases ho
          have da0 : ac.eval (.tmp 90) = .int .u32 t4 := f4 11 90 _ rfl (hdep ⟨11, .data⟩ (by simp) rfl)
          have l13 : L 13 = false := by
            cases h : L 13 with
            | false => rfl
            | true => exact absurd (hcl 13 _ rfl h ⟨12, .data⟩ (by simp) rfl) (by rw [hi]; decide)
          have l15 : L 15 = false := by
            cases h : L 15 with
            | false => rfl
            | true => exact absurd (hcl 15 _ rfl h ⟨13, .data⟩ (by simp) rfl) (by rw [l13]; decide)
          have hw' : w' = wr.drew := by
            rw [hW, l13, l15, hi]
            simp
          subst hw'
          exact Ord.det_value rfl rfl (o_bs _ da0 rfl) rfl (by simp [Ord.upd, l13, l15])
        | 13, ho, hi =>
          cases ho
          have da0 : ac.eval (.tmp 80) = .slice da j dc := f4 1 80 _ rfl (hdep ⟨1, .data⟩ (by simp) rfl)
          have da1 : ac.eval (.tmp 91) = .slice (some ⟨wr.heap.size, 0, none⟩) 1 1 := f4 12 91 _ rfl (hdep ⟨12, .data⟩ (by simp) rfl)
          have l12 : L 12 = true := hdep ⟨12, .data⟩ (by simp) rfl
          have l15 : L 15 = false := by
            cases h : L 15 with
            | false => rfl
            | true => exact absurd (hcl 15 _ rfl h ⟨13, .data⟩ (by simp) rfl) (by rw [hi]; decide)
          have hw' : w' = wr.drew.alloc (.cells #[.int .u32 t4] 23) := by
            rw [hW, l12, l15, hi]
            simp
          subst hw'
          exact Ord.det_value rfl rfl (o_ap _ _ da0 da1 rfl hr3') rfl (by simp [Ord.upd, l15])
        | 14, ho, hi =>
          cases ho
          have dk0 : ac.eval (.tmp 2) = .pointer (some ⟨w.heap.size, 0, none⟩) := f3 2 rfl
          exact Ord.det_value rfl rfl (e_fa _ dk0 rfl (fa12 _ _)) rfl (by simpa [Ord.upd] using hW)
        | 15, ho, hi =>
          cases ho
          have da0 : ac.eval (.tmp 93) = .pointer (some ⟨w.heap.size, 12, none⟩) := f4 14 93 _ rfl (hdep ⟨14, .data⟩ (by simp) rfl)
          have da1 : ac.eval (.tmp 92) = .slice da' (j + 1) dc' := f4 13 92 _ rfl (hdep ⟨13, .data⟩ (by simp) rfl)
          have l13 : L 13 = true := hdep ⟨13, .data⟩ (by simp) rfl
          have hw' : w' = w3 := by
            rw [hW, l13, hi]
            simp
          subst hw'
          exact Ord.det_skip rfl rfl (o_st _ _ da0 da1 rfl cx3 zx3) rfl (by simp [Ord.upd])
      case refine_2 =>
        intro w' hW
        simp only [if_true] at hW
        subst hW
        clear hW1 ka1 ka2 HB0 KA HOW T4 HBD HD c12 z12 cx3 zx3 hr3'
        simp only [Ord.puts, Ord.prs, List.filterMap_cons, List.filterMap_nil, Option.map_some, Option.map_none, List.foldl_cons, List.foldl_nil]
        go_simp
        go_wp2
        go_roundw
        case rel => exact ⟨j + 1, da', dc', by omega, by go_num, HST.out⟩
        case measure => simp [intOf]; omega
    · obtain rfl : j = D := by omega
      have hF := hDp.fin HBY.out g3
      obtain ⟨f1, f2, f3, f4, f5⟩ := hF.fin
      have F3 := hidden f3
      have F4 := hidden f4
      have F5 := hidden f5
      clear f3 f4 f5 hF hDp
      generalize hcf : ({ c6 with da := da, dl := j, dc := dc, ds := foursAt v (12 + 4 * G + 4 * 0) j } : Ck) = cf at *
      have HVC := hidden (show val cf = repV 3 v (val c) by rw [HREP.out, ← hcf, ← HC6.out]; rfl)
      clear hcf
      go_wp2
      exact bodyPost_ret (cell_res2 Tryz.results107 F3.out _ rfl rfl) rfl (rd_ok (by rw [HVC.out]; exact HX.out) F5.out F4.out)
end Go.Proofs.YtmnndkhdekpecaaGreatDoor.Chu
