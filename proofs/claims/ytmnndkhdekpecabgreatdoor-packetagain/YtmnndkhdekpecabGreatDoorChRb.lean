/-
  The document's reader: reports.
  Conditions: the numbers lie within their kinds, the cells hold them.
-/
import Derived.Test.YtmnndkhdekpecabGreatDoorCd
import Derived.Test.YtmnndkhdekpecabGreatDoorCf
import Derived.Test.YtmnndkhdekpecabGreatDoorOr
namespace Go.Proofs.YtmnndkhdekpecabGreatDoor.Chu
open Go.ChangeShapes Go.WideShapes Go.ChangeAt Go.RowKit
open Par (hidden Bytes Row Prm Prms cell_lt Cap cells_new cutA thrown form_of)
set_option linter.unusedVariables false
attribute [local go_sem ↓] execOp_ld execOp_bx execOp_st
attribute [local go_sem] run_box

/-- while the document reads: its chunk, the result's variable, the lists -/
def Ds (w wx : World) (c : Ck) : Prop := Bx wx w.heap.size c ∧ Bx wx (w.heap.size + 1) (zck 0) ∧ Below w.heap.size w wx ∧ w.heap.size + 2 ≤ wx.heap.size ∧ Lsts (w.heap.size + 2) wx c
theorem Ds.start (w : World) (c : Ck) (hl : ∀ nn w, Lsts nn w c) : Ds w ((w.alloc (.cells (cc c) 38)).alloc (.cells (cc (zck 0)) 38)) c := by
  have b2 := Bx.new (w.alloc (.cells (cc c) 38)) (zck 0)
  rw [World.size_alloc] at b2
  exact ⟨(Bx.new w c).alloc _, b2, ((Below.refl _ w).alloc (Nat.le_refl _) _).alloc (by simp) _, by simp, hl _ _⟩
theorem Ds.later {w wx wy : World} {c : Ck} (h : Ds w wx c) (hb : Below wx.heap.size wx wy) : Ds w wy c := ⟨h.1.later hb, h.2.1.later hb, h.2.2.1.trans (hb.mono h.2.2.1.size), Nat.le_trans h.2.2.2.1 hb.size, h.2.2.2.2.later hb⟩
theorem Ds.store {w wx : World} {i : Nat} {c c' : Ck} {u : Value} (h : Ds w wx c) (hx : Bx (wx.setCell ⟨w.heap.size, i, none⟩ u) w.heap.size c') (hl : Lsts (w.heap.size + 2) wx c') : Ds w (wx.setCell ⟨w.heap.size, i, none⟩ u) c' :=
  ⟨hx, h.2.1.grown (gr_set wx w.heap.size i u) (by omega), h.2.2.1.setCell (Nat.le_refl _) _, by simpa [World.setCell] using h.2.2.2.1, hl.set (by simp) _⟩
/-- the result is stored -/
theorem Ds.fin {w wx : World} {c : Ck} (h : Ds w wx c) : (ld (.pointer (some ⟨w.heap.size, 0, none⟩))).run Tryz.prog wx = .ok (cv c) wx ∧ (sto (.pointer (some ⟨w.heap.size + 1, 0, none⟩)) (cv c)).run Tryz.prog wx = .ok () (stoW wx (w.heap.size + 1) c) ∧
    Bx (stoW wx (w.heap.size + 1) c) (w.heap.size + 1) c ∧ Below w.heap.size w (stoW wx (w.heap.size + 1) c) ∧ Lsts w.heap.size (stoW wx (w.heap.size + 1) c) c := by
  have hb := stoW_below c (Below.refl (w.heap.size + 1) wx) (Nat.le_refl _)
  have hT : Tch (w.heap.size + 1) w.heap.size wx (stoW wx (w.heap.size + 1) c) := ⟨hb.os, hb.tape, hb.output, hb.size, fun k hk hB _ => other_setCells (w.heap.size + 1) k hB _ _ _⟩
  exact ⟨h.1.ld, sto_run h.2.1 c, stoW_bx h.2.1 c, stoW_below c h.2.2.1 (by omega), (h.2.2.2.2.tch (by omega) (by omega) hT).mono (by omega)⟩
theorem cell_res2 {w : World} {B p q : Nat} {c : Ck} {x : Value} {fn : Func} (h : fn.results = #[.cell p 38, .tmp q]) (hb : Bx w B c) (tmps : Array Value) (hp : tmps.getD p undef = .pointer (some ⟨B, 0, none⟩)) (hq : tmps.getD q undef = x) :
    (results fn tmps).run Tryz.prog w = .ok (.tuple #[cv c, x]) w := by
  have hp' : tmps[p]?.getD undef = .pointer (some ⟨B, 0, none⟩) := by simpa using hp
  have hq' : tmps[q]?.getD undef = x := by simpa using hq
  simp [results, h, hp', hq', asAddr, hb.load]
/-- what is told of a value -/
def RdR (w : World) (v : List Int) (k : Int) (x : Ch) (e : Ending) (w' : World) : Prop :=
  ∃ c' er y, e = .returned (.tuple #[cv c', .int .i64 er]) ∧ Fil k v x er y ∧ (er = 0 → val c' = y ∧ Lsts w.heap.size w' c') ∧ Below w.heap.size w w'
theorem rd_bad {w w' : World} {v : List Int} {k : Int} {x : Ch} {c' : Ck} {er : Int} (hf : ∀ y, Fil k v x er y) (he : er ≠ 0) (hb : Below w.heap.size w w') : RdR w v k x (.returned (.tuple #[cv c', .int .i64 er])) w' := ⟨c', er, x, rfl, hf x, fun h => absurd h he, hb⟩
theorem rd_ok {w w' : World} {v : List Int} {k : Int} {x : Ch} {c' : Ck} (hf : Fil k v x 0 (val c')) (hl : Lsts w.heap.size w' c') (hb : Below w.heap.size w w') : RdR w v k x (.returned (.tuple #[cv c', .int .i64 0])) w' := ⟨c', 0, _, rfl, hf, fun _ => ⟨rfl, hl⟩, hb⟩
/-- an append of numbers, as an operation that the walk does not open -/
def apd (ty : TypeId) (u v : Value) : Sem Value := Builtin.append_ #[35, 35] ty #[u, v]
theorem execOp_ap (ρ : Operand → Value) (dst : Option Tmp) (x y : Operand) (ty : TypeId) (pos : String) (after : Array Edge) (guard : Option (Nat × Bool)) :
    execOp ρ { dst := dst, op := .call { callee := .builtin .append, args := #[x, y], argTypes := #[35, 35] }, type := ty, pos := pos, after := after, guard := guard } = (do pure (.value (← apd ty (ρ x) (ρ y)))) := by
  unfold execOp
  simp [resolve, invoke, builtin, apd]
theorem run_apd {base k vc : Nat} {va : Option Addr} {w1 : World} {xs : List Value} (hown : w1.ownsRow base 24 1 (.slice va k vc) k xs) (hk : k ≤ 4096) (T : Int) (hb : base ≤ w1.heap.size) (ty : TypeId) :
    ∃ va' vc' w2, (apd ty (.slice va k vc) (.slice (some ⟨w1.heap.size, 0, none⟩) 1 1)).run Tryz.prog (w1.alloc (.cells #[.int .u32 T] 24)) = .ok (.slice va' (k + 1) vc') w2 ∧ w2.ownsRow base 24 1 (.slice va' (k + 1) vc') (k + 1) (xs ++ [.int .u32 T]) ∧
      (w1.alloc (.cells #[.int .u32 T] 24)).grownBy w2 (Value.slice va k vc).ownBlock ∧ ((Value.slice va' (k + 1) vc').ownBlock = (Value.slice va k vc).ownBlock ∨ (Value.slice va' (k + 1) vc').ownBlock = some (w1.heap.size + 1)) := by
  obtain ⟨i0, hi, hz0, hz1, hz2⟩ := info_parts info32
  have h1 : ∀ u ∈ [Value.int .u32 T], u.oneCell' = true := by
    intro u hu
    simp only [List.mem_cons, List.not_mem_nil, or_false] at hu
    subst hu
    rfl
  obtain ⟨v', w', hr, h2, h3, _⟩ := run_append_own (P := Tryz.prog) (w1.alloc (.cells #[.int .u32 T] 24)) base 35 ty 24 i0 (.int .u32 0) 1 4 Tryz.underlying35 hi hz0 hz1 hz2 rfl (by decide) _ _ _ (hown.alloc _) ⟨w1.heap.size, 0, none⟩ 1 1 [.int .u32 T] rfl (cells_new w1 _ 24) h1 (by unfold maxLen; omega) (by omega) (by simp; omega)
  have h5 := append_where (c := 1) (ty := ty) Tryz.underlying35 hi hz0 (by rw [hz1]; exact hown.alloc (.cells #[.int .u32 T] 24)) (by rw [hz1]; rfl) (cells_new w1 _ 24) h1 (by decide) (by unfold maxLen; omega) (by rw [hz2]; omega) hr
  rw [World.size_alloc] at h5
  obtain ⟨va', vc', rfl⟩ := form_of h2
  exact ⟨va', vc', w', hr, h2, h3, h5⟩
attribute [local go_sem ↓] execOp_ap
section
variable {a : Act} {o : Oper} {w : World}
theorem o_mv {v : Value} (x : Operand) (ho : o.op = .move x) (hx : a.eval x = v) : (execOp a.eval o).run Tryz.prog w = .ok (.value v) w := by
  unfold execOp
  rw [ho]
  simp only [hx]
  rfl
theorem o_add {p q : Int} (x y : Operand) (ho : o.op = .binOp .add 3 x y 3) (hx : a.eval x = .int .i64 p) (hy : a.eval y = .int .i64 q) : (execOp a.eval o).run Tryz.prog w = .ok (.value (.int .i64 (IntKind.i64.wrap (p + q)))) w := by
  unfold execOp
  rw [ho]
  simp only [hx, hy]
  go_simp
theorem o_mul {p q : Int} (x y : Operand) (ho : o.op = .binOp .mul 3 x y 3) (hx : a.eval x = .int .i64 p) (hy : a.eval y = .int .i64 q) : (execOp a.eval o).run Tryz.prog w = .ok (.value (.int .i64 (IntKind.i64.wrap (p * q)))) w := by
  unfold execOp
  rw [ho]
  simp only [hx, hy]
  go_simp
theorem o_bs {t : Int} (x : Operand) (h0 : a.eval x = .int .u32 t) (ho : o.op = .buildSlice 35 1 #[(0, x)]) : (execOp a.eval o).run Tryz.prog w = .ok (.value (.slice (some ⟨w.heap.size, 0, none⟩) 1 1)) (w.alloc (.cells #[.int .u32 t] 24)) := by
  unfold execOp
  rw [ho]
  simp only [List.map_toArray, List.map_cons, List.map_nil, h0]
  go_simp
theorem o_ap {u v r : Value} {w' : World} (x y : Operand) (h0 : a.eval x = u) (h1 : a.eval y = v) (ho : o.op = .call { callee := .builtin .append, args := #[x, y], argTypes := #[35, 35] }) (hr : (apd o.type u v).run Tryz.prog w = .ok r w') : (execOp a.eval o).run Tryz.prog w = .ok (.value r) w' := by
  obtain ⟨d, op, ty, ps, af, gd⟩ := o
  simp only at ho hr
  subst ho
  rw [execOp_ap, h0, h1]
  exact Ord.run_v hr
theorem o_st {p : Addr} {x0 : Value} (x y : Operand) (h0 : a.eval x = .pointer (some p)) {va : Option Addr} {k c : Nat} (h1 : a.eval y = .slice va k c) (ho : o.op = .store 35 x y) (hc : w.cell? p = some x0) (hz : w.frozen? p = false) : (execOp a.eval o).run Tryz.prog w = .ok .skip (w.setCell p (.slice va k c)) := by
  unfold execOp
  rw [ho]
  simp only [h0, h1]
  simp [go_sem, hc, hz]
theorem ldD (w : World) (p : Addr) (va : Option Addr) (l k : Nat) (h : w.cell? p = some (.slice va l k)) : (Instr.loadAt 35 (.pointer (some p))).run Tryz.prog w = .ok (.slice va l k) w := by simp [go_sem, h]
end
/-- the dups so far -/
def Dp (w wr : World) (c : Ck) (v : List Int) (p j : Nat) (da : Option Addr) (dc : Nat) : Prop :=
  wr.ownsRow (w.heap.size + 2) 24 1 (.slice da j dc) j (dcs (foursAt v p j)) ∧ Bx wr w.heap.size { c with da := da, dl := j, dc := dc, ds := foursAt v p j } ∧ Bx wr (w.heap.size + 1) (zck 0) ∧ Below w.heap.size w wr ∧ w.heap.size + 2 ≤ wr.heap.size ∧ Lsts (w.heap.size + 2) wr c ∧ AvC (Value.slice da j dc).ownBlock c
theorem bx_blk {w w' : World} {B : Nat} {c : Ck} {row : Option Nat} (h : Bx w B c) (hg : w.grownBy w' row) (hne : some B ≠ row) : Bx w' B c := by
  obtain ⟨_, _, _, _, a5⟩ := hg
  exact (a5 B h.lt hne).trans h
theorem Dp.start {w wr : World} {c : Ck} (v : List Int) (p : Nat) (h : Ds w wr c) (h0 : c.da = none ∧ c.dl = 0 ∧ c.dc = 0 ∧ c.ds = []) : Dp w wr c v p 0 none 0 := by
  obtain ⟨h1, h2, h3, h4⟩ := h0
  have e : ({ c with da := none, dl := 0, dc := 0, ds := foursAt v p 0 } : Ck) = c := by
    obtain ⟨⟩ := c
    simp only at h1 h2 h3 h4
    subst h1 h2 h3 h4
    rfl
  refine ⟨World.ownsRow_nil _ _ _ _, by rw [e]; exact h.1, h.2.1, h.2.2.1, h.2.2.2.1, h.2.2.2.2, avC_of h.2.2.2.2 (fun b u off _ _ e => by cases e)⟩
theorem Dp.step {w wr w3 : World} {c : Ck} {v : List Int} {p j : Nat} {da da' : Option Addr} {dc dc' : Nat} (h : Dp w wr c v p j da dc) (ho : w3.ownsRow (w.heap.size + 2) 24 1 (.slice da' (j + 1) dc') (j + 1) (dcs (foursAt v p j) ++ [.int .u32 (n4 v (p + 4 * j))]))
    (hg : (wr.drew.alloc (.cells #[.int .u32 (n4 v (p + 4 * j))] 24)).grownBy w3 (Value.slice da j dc).ownBlock) (hw : (Value.slice da' (j + 1) dc').ownBlock = (Value.slice da j dc).ownBlock ∨ (Value.slice da' (j + 1) dc').ownBlock = some (wr.drew.heap.size + 1)) :
    Dp w (w3.setCell ⟨w.heap.size, 12, none⟩ (.slice da' (j + 1) dc')) c v p (j + 1) da' dc' ∧ Bx w3 w.heap.size { c with da := da, dl := j, dc := dc, ds := foursAt v p j } ∧ Below w.heap.size w w3 := by
  obtain ⟨h1, h2, h3, h4, h5, h6, h7⟩ := h
  have hb : Below wr.heap.size wr (wr.drew.alloc (.cells #[.int .u32 (n4 v (p + 4 * j))] 24)) := (Par.below_drewN (Below.refl _ wr) 1).alloc (Nat.le_refl _) _
  have hlt : ∀ g, (Value.slice da j dc).ownBlock = some g → w.heap.size + 2 ≤ g := fun g e => (h1.lt g e).1
  have x3 : Bx w3 w.heap.size { c with da := da, dl := j, dc := dc, ds := foursAt v p j } := bx_blk (h2.later hb) hg (fun e => by have := hlt _ e.symm; omega)
  have y3 : Bx w3 (w.heap.size + 1) (zck 0) := bx_blk (h3.later hb) hg (fun e => by have := hlt _ e.symm; omega)
  have l2 := h6.later hb
  have l3 := lsts_gr l2 h7 hg
  have b3 : Below w.heap.size w w3 := (h4.trans (hb.mono h4.size)).grown hg (h4.trans (hb.mono h4.size)).size (fun g e => by have := hlt _ e; omega)
  have hs3 : w.heap.size + 2 ≤ w3.heap.size := by
    have h1 := hb.size
    obtain ⟨_, _, _, h2, _⟩ := hg
    omega
  have av : AvC (Value.slice da' (j + 1) dc').ownBlock c := by
    rcases hw with e | e
    · rw [e]; exact h7
    · rw [e]
      refine avC_of h6 (fun b u off _ hcell e => ?_)
      cases e
      have := cell_lt hcell
      have hs : wr.drew.heap.size = wr.heap.size := rfl
      simp only at this
      omega
  refine ⟨⟨?_, x3.s12 da' (j + 1) dc' (foursAt v p (j + 1)), y3.grown (gr_set w3 w.heap.size 12 _) (by omega), b3.setCell (Nat.le_refl _) _, by simpa [World.setCell] using hs3, l3.set (by simp) _, av⟩, x3, b3⟩
  rw [foursAt_succ, dcs_append]
  exact ownsRow_setCell_below ho (by simp) _
theorem Dp.fin {w wr : World} {c : Ck} {v : List Int} {p j : Nat} {da : Option Addr} {dc : Nat} (hv : Bytes v) (hj : j ≤ 4096) (h : Dp w wr c v p j da dc) : Ds w wr { c with da := da, dl := j, dc := dc, ds := foursAt v p j } := by
  obtain ⟨h1, h2, h3, h4, h5, h6, h7⟩ := h
  obtain ⟨a, cap, e, hf⟩ := fours_own hv hj h1
  cases e
  exact ⟨h2, h3, h4, h5, h6.1, h6.2.1, hf, h6.2.2.2⟩
/-- counts -/
theorem cnt_eq {v : List Int} (hv : Bytes v) (p : Nat) : n2 v p = (((n2 v p).toNat : Nat) : Int) := by have := n2_bound hv p; omega
theorem lsts_g {n : Nat} {w : World} {c : Ck} (h : Lsts n w c) {a : Option Addr} {l k : Nat} {xs : List (Int × Int)} (hg : Gaps n w a l xs) : Lsts n w { c with ga := a, gl := l, gc := k, gs := xs } := ⟨hg, h.2⟩
theorem lsts_n {n : Nat} {w : World} {c : Ck} (h : Lsts n w c) {a : Option Addr} {l k : Nat} {xs : List (Int × Int)} (hg : Gaps n w a l xs) : Lsts n w { c with na := a, nl := l, nc := k, ns := xs } := ⟨h.1, hg, h.2.2⟩
end Go.Proofs.YtmnndkhdekpecabGreatDoor.Chu
