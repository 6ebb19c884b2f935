/-
  The reader of package packet: its smallest functions, and the head.
  Conditions: the numbers lie within their kinds, the cells hold them; the bytes lie in the memory of an older world, which the reader does not touch.
-/
import Derived.Test.YtmnndkhdekpecaaGreatDoorPkA
import Derived.Defers
import Derived.Recover
import Derived.BigRegion
import Derived.BigQuiet
import Derived.Deep.QuietTactic
import Derived.Deep.RegionWith
namespace Go.Proofs.YtmnndkhdekpecaaGreatDoor.Pkt
open Go.ChangeShapes Go.WideShapes Go.ChangeAt Go.RowKit
open Chu (Ch Ck Cks Chk val cv cc ld n2 n4 gr_set gr_trans gr_drew gr_drewN gr_own gr_below)
open Par (hidden Bytes Row cell_lt cutA)
open Crc (putOf)
set_option linter.unusedVariables false
set_option maxRecDepth 20000

/-- a fault that is thrown -/
def thrown (f : Int) (p : Int) : Ending := .panicked [{ v := .iface 95 (.agg #[.int .i64 f, .int .i64 p]), recovered := false }]
/-- block B is a reader of these bytes, which lie in the older world w0 -/
def Rdr (w0 w : World) (B : Nat) (zs : List Int) : Prop :=
  ∃ a len cap, w.heap[B]? = some (.cells #[.slice a len cap] 72 (0, 0)) ∧ Row 0 w0 a len zs ∧ len ≤ cap ∧ (a = none → len = 0 ∧ cap = 0)
theorem rd_c {w : World} {B : Nat} {a : Option Addr} {len cap : Nat} (h : w.heap[B]? = some (.cells #[.slice a len cap] 72 (0, 0))) : w.cell? ⟨B, 0, none⟩ = some (.slice a len cap) ∧ w.frozen? ⟨B, 0, none⟩ = false := by
  simp [World.cell?, World.frozen?, h]
/-- a reader that stands at a place -/
def Rp (w0 w : World) (B : Nat) (v : List Int) (p : Nat) : Prop := Rdr w0 w B (v.drop p) ∧ p ≤ v.length ∧ Bytes v ∧ Below w0.heap.size w0 w ∧ w0.heap.size ≤ B
theorem Rp.lt {w0 w : World} {B p : Nat} {v : List Int} (h : Rp w0 w B v p) : B < w.heap.size := by
  obtain ⟨⟨a, len, cap, h1, _⟩, _⟩ := h
  exact (Array.getElem?_eq_some_iff.1 h1).1
theorem Rp.grown {w0 w w' : World} {B p : Nat} {v : List Int} (h : Rp w0 w B v p) {q : Nat} (hq : q ≤ v.length) (hR : Rdr w0 w' B (v.drop q)) (hg : w.grownBy w' (some B)) : Rp w0 w' B v q :=
  ⟨hR, hq, h.2.2.1, h.2.2.2.1.grown hg h.2.2.2.1.size (fun k hk => by cases hk; exact h.2.2.2.2), h.2.2.2.2⟩
theorem Rp.later {w0 w w' : World} {B p : Nat} {v : List Int} (h : Rp w0 w B v p) (hb : Below w.heap.size w w') : Rp w0 w' B v p := by
  have hl := h.lt
  obtain ⟨⟨a, len, cap, h1, h2⟩, h3, h4, h5, h6⟩ := h
  exact ⟨⟨a, len, cap, (hb.block _ hl).trans h1, h2⟩, h3, h4, h5.trans (hb.mono h5.size), h6⟩
theorem size_ (a : Option Addr) (len cap : Nat) (w : World) : Calls Tryz.prog 58 #[.slice a len cap] w fun e w' => e = .returned (.int .i64 (len : Int)) ∧ w = w' := by
  go_enter Tryz.func58, Tryz.ntmps58
  go_wp2
  go_ret
  exact ⟨rfl, rfl⟩
theorem need_ok (f : Int) (w : World) : Calls Tryz.prog 57 #[.bool true, .int .i64 f] w fun e w' => e = .returned (.tuple #[]) ∧ w = w' := by
  go_enter Tryz.func57, Tryz.ntmps57
  go_wp2
  go_end0
  exact ⟨rfl, rfl⟩
theorem need_bad (f : Int) (w : World) : Calls Tryz.prog 57 #[.bool false, .int .i64 f] w fun e w' => e = thrown f 0 ∧ w = w' := by
  go_enter Tryz.func57, Tryz.ntmps57
  go_wp2
  exact ⟨rfl, rfl, rfl⟩
theorem or16 (x y : Int) (x1 : 0 ≤ x ∧ x < 256) (x2 : 0 ≤ y ∧ y < 256) : bits .or .u16 (x * 256) y = x * 256 + y := by
  obtain ⟨X, rfl⟩ : ∃ X : Nat, x = (X : Int) := ⟨x.toNat, by omega⟩
  obtain ⟨Y, rfl⟩ : ∃ Y : Nat, y = (Y : Int) := ⟨y.toNat, by omega⟩
  rw [show (X : Int) * 256 = ((X * 256 : Nat) : Int) by omega, u16_or_nat (X * 256) Y (by omega) (by omega)]
  have := Nat.two_pow_add_eq_or_of_lt (i := 8) (b := Y) (by omega) X
  rw [Nat.mul_comm X, ← this]
  omega
theorem two (w0 w : World) (B p : Nat) (v : List Int) (h : Rp w0 w B v p) (hp : p + 2 ≤ v.length) :
    Calls Tryz.prog 62 #[.pointer (some ⟨B, 0, none⟩)] w fun e w' => e = .returned (.int .u16 (n2 v p)) ∧ Rp w0 w' B v (p + 2) ∧ w.grownBy w' (some B) := by
  have HR := hidden h
  have x1 := Par.at_bound v h.2.2.1 p
  have x2 := Par.at_bound v h.2.2.1 (p + 1)
  have HE := hidden (show n2 v p = v.getD p 0 * 256 + v.getD (p + 1) 0 from rfl)
  obtain ⟨⟨a, len, cap, h1, hrow, hlc, hnn⟩, hpl, hby, hb, hB⟩ := h
  obtain ⟨c0, f0⟩ := rd_c h1
  have hl := hrow.1
  rw [List.length_drop] at hl
  have hlim := hrow.2.2.1
  have HN := hidden (show Rdr w0 (w.setCell ⟨B, 0, none⟩ (.slice (cutA a cap 2) (len - 2) (cap - 2))) B (v.drop (p + 2)) from
    ⟨_, _, _, Chu.heap_set w B 0 _ h1, by rw [← List.drop_drop]; exact Par.cutA_row hrow (by omega) hlc hnn, by omega, Par.cutA_none hnn⟩)
  obtain ⟨b, off, rfl, d0⟩ := Chu.row_cell hrow hb (j := 0) (by omega)
  obtain ⟨b', off', e, d1⟩ := Chu.row_cell hrow hb (j := 1) (by omega)
  cases e
  have hne : b ≠ B := by
    obtain ⟨b2, off2, e, _, hc⟩ := hrow.2.2.2.resolve_left (by omega)
    cases e
    have := cell_lt (hc 0 (by omega))
    simp only at this
    omega
  rw [Chu.getD_drop, Nat.add_zero, Nat.add_zero] at d0
  rw [Chu.getD_drop] at d1
  have ho := or16 _ _ x1 x2
  have i1 : (2 : Int) ≤ (len : Int) := by omega
  have i2 : (2 : Int) ≤ (cap : Int) := by omega
  have HG := hidden (fun u => gr_set w B 0 u)
  have d0' : ∀ u, (w.setCell ⟨B, 0, none⟩ u).cell? ⟨b, off, none⟩ = some (.int .u8 (v.getD p 0)) := fun u => (World.cell?_setCell_other _ _ _ _ (fun e => hne (by have h := congrArg Addr.block e; first | exact h | exact h.symm))).trans d0
  have d1' : ∀ u, (w.setCell ⟨B, 0, none⟩ u).cell? ⟨b, off + 1, none⟩ = some (.int .u8 (v.getD (p + 1) 0)) := fun u => (World.cell?_setCell_other _ _ _ _ (fun e => hne (by have h := congrArg Addr.block e; first | exact h | exact h.symm))).trans d1
  clear h1 hrow hnn hb hby
  generalize v.getD p 0 = x at *
  generalize v.getD (p + 1) 0 = y at *
  by_cases h2 : cap = 2
  · have e : cutA (some (⟨b, off, none⟩ : Addr)) cap 2 = some ⟨b, off, none⟩ := by unfold cutA; rw [if_pos h2]
    rw [e] at HN
    subst h2
    obtain rfl : len = 2 := by omega
    go_enter Tryz.func62, Tryz.ntmps62
    go_wp2
    go_quiet (fail)
    have HF := hidden (show Rp w0 ((w.setCell ⟨B, 0, none⟩ (.slice (some ⟨b, off, none⟩) 0 0)).drewN nq) B v (p + 2) from HR.out.grown hp HN.out (gr_drewN (HG.out _) nq))
    go_wp2
    go_ret
    exact ⟨by rw [HE.out]; rfl, HF.out, gr_drewN (HG.out _) nq⟩
  · have e : cutA (some (⟨b, off, none⟩ : Addr)) cap 2 = some ⟨b, off + 2, none⟩ := by unfold cutA; rw [if_neg h2]; rfl
    rw [e] at HN
    go_enter Tryz.func62, Tryz.ntmps62
    go_wp2
    go_quiet (fail)
    have HF := hidden (show Rp w0 ((w.setCell ⟨B, 0, none⟩ (.slice (some ⟨b, off + 2, none⟩) (len - 2) (cap - 2))).drewN nq) B v (p + 2) from HR.out.grown hp HN.out (gr_drewN (HG.out _) nq))
    go_wp2
    go_ret
    exact ⟨by rw [HE.out]; rfl, HF.out, gr_drewN (HG.out _) nq⟩
theorem four (w0 w : World) (B p : Nat) (v : List Int) (h : Rp w0 w B v p) (hp : p + 4 ≤ v.length) :
    Calls Tryz.prog 63 #[.pointer (some ⟨B, 0, none⟩)] w fun e w' => e = .returned (.int .u32 (n4 v p)) ∧ Rp w0 w' B v (p + 4) ∧ w.grownBy w' (some B) := by
  have C := hidden (two w0 w B p v h (by omega))
  have x1 := Chu.n2_bound h.2.2.1 p
  have x2 := Chu.n2_bound h.2.2.1 (p + 2)
  have HE := hidden (show n4 v p = n2 v p * 65536 + n2 v (p + 2) from rfl)
  clear h
  generalize n2 v p = x at *
  go_enter Tryz.func63, Tryz.ntmps63
  go_wp2_with fail
  refine Calls.mono C.out ?_
  rintro e w1 ⟨rfl, h1, g1⟩
  have C2 := hidden (two w0 w1 B (p + 2) v h1 (by omega))
  have HG := hidden g1
  clear C h1 g1
  generalize n2 v (p + 2) = y at *
  have ho : bits .or .u32 (x * 65536) y = x * 65536 + y := by
    obtain ⟨X, rfl⟩ : ∃ X : Nat, x = (X : Int) := ⟨x.toNat, by omega⟩
    obtain ⟨Y, rfl⟩ : ∃ Y : Nat, y = (Y : Int) := ⟨y.toNat, by omega⟩
    rw [show (X : Int) * 65536 = ((X * 65536 : Nat) : Int) by omega, u32_or_nat (X * 65536) Y (by omega) (by omega)]
    have := Nat.two_pow_add_eq_or_of_lt (i := 16) (b := Y) (by omega) X
    rw [Nat.mul_comm X, ← this]
    omega
  go_wp2_with fail
  refine Calls.mono C2.out ?_
  rintro e w2 ⟨rfl, h2, g2⟩
  have H2 := hidden h2
  have HG2 := hidden (gr_trans HG.out g2)
  clear C2 h2 g2
  go_wp2
  go_ret
  exact ⟨by rw [HE.out]; rfl, H2.out, HG2.out⟩
/-- block B is a packet -/
def Pb (w : World) (B : Nat) (p : Pk) : Prop := w.heap[B]? = some (.cells (pkc p) 26 (0, 0))
theorem Pb.new (w : World) (p : Pk) : Pb (w.alloc (.cells (pkc p) 26)) w.heap.size p := heap_alloc_new w _
theorem Pb.lt {w : World} {B : Nat} {p : Pk} (h : Pb w B p) : B < w.heap.size := (Array.getElem?_eq_some_iff.1 h).1
theorem Pb.later {w w' : World} {B : Nat} {p : Pk} (h : Pb w B p) (hb : Below w.heap.size w w') : Pb w' B p := (hb.block B h.lt).trans h
theorem Pb.gr {w w' : World} {B C : Nat} {p : Pk} (h : Pb w B p) (hg : w.grownBy w' (some C)) (hne : B ≠ C) : Pb w' B p := (hg.block B h.lt (fun e => hne (Option.some.inj e))).trans h
theorem Pb.px {w : World} {B : Nat} {p : Pk} (h : Pb w B p) : Px w B p := by unfold Pb at h; simp [Px, World.cell?, h, pkc]
theorem Pb.fr {w : World} {B : Nat} {p : Pk} (h : Pb w B p) (i : Nat) : w.frozen? ⟨B, i, none⟩ = false := by unfold Pb at h; simp [World.frozen?, h]
theorem Pb.load {w : World} {B : Nat} {p : Pk} (h : Pb w B p) : (loadVar 26 ⟨B, 0, none⟩).run Tryz.prog w = .ok (pkv p) w := by
  obtain ⟨c0, c1, c2, c3⟩ := h.px
  simp [go_sem, c0, c1, c2, c3, pkv, pkc]
theorem cell_res {w : World} {B p : Nat} {q : Pk} {fn : Func} (h : fn.results = #[.cell p 26]) (hb : Pb w B q) (tmps : Array Value) (hp : tmps.getD p undef = .pointer (some ⟨B, 0, none⟩)) :
    (results fn tmps).run Tryz.prog w = .ok (pkv q) w := by
  have hp' : tmps[p]?.getD undef = .pointer (some ⟨B, 0, none⟩) := by simpa using hp
  simp [results, h, hp', asAddr, hb.load]
/-- a packet's head alone -/
def hpk (zs : List Int) : Pk := ⟨n2 zs 0, n2 zs 2, n4 zs 4, none, 0, 0, []⟩
section
variable {P : Program} {ops : Array Oper} {Q : Exit → Act → World → Prop}
theorem ex_told {X : Type} {l : X → List (Option Nat × Value)} {L : Nat → Bool} {i : Nat} {o : Oper} {a : Act} {w : World} {f : FuncId} {args : Array Value} {R : X → World → Prop} (x : X) (ho : ops[i]? = some o) (hw : Region.wanted o (yielded ops a.tmps) = true)
    (hr : (execOp a.eval o).run P w = .ok (.enter f args) w) (hc : Calls P f args w fun e w' => e = .returned ((l x).getD i (none, undef)).2 ∧ R x w') : wpOp P ops Q i (fun a' w'' => ∃ x', a' = a.put o.dst ((l x').getD i (none, undef)).2 ∧ (∀ j, L j = true → (l x')[j]? = (l x)[j]?) ∧ R x' w'') a w :=
  Ord.wpOp_of ho hw (Ord.wp_enter hr (Calls.mono hc (by rintro e w' ⟨rfl, hR⟩; exact ⟨_, rfl, x, rfl, fun _ _ => rfl, hR⟩)))
theorem ex_skip {X : Type} {l : X → List (Option Nat × Value)} {L : Nat → Bool} {i : Nat} {o : Oper} {a : Act} {w w' : World} {R : X → World → Prop} (x : X) (ho : ops[i]? = some o) (hw : Region.wanted o (yielded ops a.tmps) = true)
    (hr : (execOp a.eval o).run P w = .ok .skip w') (hd : o.dst = none) (hR : R x w') : wpOp P ops Q i (fun a' w'' => ∃ x', a' = a.put o.dst ((l x').getD i (none, undef)).2 ∧ (∀ j, L j = true → (l x')[j]? = (l x)[j]?) ∧ R x' w'') a w := by
  refine Ord.wpOp_of ho hw ?_
  unfold Oper.wp
  rw [hr]
  refine ⟨x, ?_, fun _ _ => rfl, hR⟩
  rw [hd]
  rfl
end
section
variable {a : Act} {o : Oper} {w : World}
theorem q_mv {v : Value} (x : Operand) (ho : o.op = .move x) (hx : a.eval x = v) : (execOp a.eval o).run Tryz.prog w = .ok (.value v) w := by
  unfold execOp
  rw [ho]
  simp only [hx]
  rfl
theorem q_nil {B : Nat} (x : Operand) (hu : a.eval x = .pointer (some ⟨B, 0, none⟩)) (ho : o.op = .nilCheck x) : (execOp a.eval o).run Tryz.prog w = .ok (.value (.pointer (some ⟨B, 0, none⟩))) w := by
  unfold execOp
  rw [ho]
  simp only [hu]
  rfl
theorem q_fa {B : Nat} (x : Operand) (hu : a.eval x = .pointer (some ⟨B, 0, none⟩)) (ho : o.op = .fieldAddr 72 x 0) : (execOp a.eval o).run Tryz.prog w = .ok (.value (.pointer (some ⟨B, 0, none⟩))) w := by
  unfold execOp
  rw [ho]
  simp only [hu]
  exact Ord.run_v (show (Instr.fieldAt 72 (.pointer (some ⟨B, 0, none⟩)) 0).run Tryz.prog w = .ok (.pointer (some ⟨B, 0, none⟩)) w by simp [go_sem])
theorem q_two {u : Value} {T : Array TypeId} (x : Operand) (hu : a.eval x = u) (ho : o.op = .call { callee := .value (.func 62), args := #[x], argTypes := T }) : (execOp a.eval o).run Tryz.prog w = .ok (.enter 62 #[u]) w := by
  unfold execOp
  rw [ho]
  go_simp
  cases x <;> simpa [Act.eval] using hu
theorem q_four {u : Value} {T : Array TypeId} (x : Operand) (hu : a.eval x = u) (ho : o.op = .call { callee := .value (.func 63), args := #[x], argTypes := T }) : (execOp a.eval o).run Tryz.prog w = .ok (.enter 63 #[u]) w := by
  unfold execOp
  rw [ho]
  go_simp
  cases x <;> simpa [Act.eval] using hu
theorem q_bld {f t g : Int} {x y z : Operand} (hx : a.eval x = .int .u16 f) (hy : a.eval y = .int .u16 t) (hz : a.eval z = .int .u32 g) (ho : o.op = .build 26 #[(0, x), (1, y), (2, z)]) : (execOp a.eval o).run Tryz.prog w = .ok (.value (.agg #[.int .u16 f, .int .u16 t, .int .u32 g, .slice none 0 0])) w := by
  unfold execOp
  rw [ho]
  simp only [List.map_toArray, List.map_cons, List.map_nil, hx, hy, hz]
  go_simp
theorem q_al (ho : o.op = .alloc 26) : (execOp a.eval o).run Tryz.prog w = .ok (.value (.pointer (some ⟨w.heap.size, 0, none⟩))) (w.alloc (.cells (pkc zpk) 26)) := by
  unfold execOp
  rw [ho]
  rfl
/-- a packet is stored -/
def setW (w : World) (x : Nat) (p : Pk) : World := (((w.setCell ⟨x, 0, none⟩ (.int .u16 p.f)).setCell ⟨x, 1, none⟩ (.int .u16 p.t)).setCell ⟨x, 2, none⟩ (.int .u32 p.g)).setCell ⟨x, 3, none⟩ (.slice p.a p.n p.c)
theorem q_st {x : Nat} {p q : Pk} {u v : Operand} (hx : a.eval u = .pointer (some ⟨x, 0, none⟩)) (hy : a.eval v = pkv p) (ho : o.op = .store 26 u v) (hp : Pb w x q) : (execOp a.eval o).run Tryz.prog w = .ok .skip (setW w x p) := by
  obtain ⟨c0, c1, c2, c3⟩ := hp.px
  have f0 := hp.fr 0
  have f1 := hp.fr 1
  have f2 := hp.fr 2
  have f3 := hp.fr 3
  unfold execOp
  rw [ho]
  simp only [hx, hy, pkv, pkc, setW]
  simp [go_sem, c0, c1, c2, c3, f0, f1, f2, f3]
end
theorem Pb.set {w : World} {x : Nat} {p q : Pk} (h : Pb w x q) : Pb (setW w x p) x p := by
  unfold setW Pb
  have h0 := Chu.heap_set w x 0 (.int .u16 p.f) h
  have h1 := Chu.heap_set _ x 1 (.int .u16 p.t) h0
  have h2 := Chu.heap_set _ x 2 (.int .u32 p.g) h1
  exact Chu.heap_set _ x 3 (.slice p.a p.n p.c) h2
theorem setW_gr (w : World) (x : Nat) (p : Pk) : w.grownBy (setW w x p) (some x) := gr_trans (gr_trans (gr_trans (gr_set _ _ _ _) (gr_set _ _ _ _)) (gr_set _ _ _ _)) (gr_set _ _ _ _)
theorem Rp.other {w0 w w' : World} {B x q : Nat} {zs : List Int} (h : Rp w0 w B zs q) (hg : w.grownBy w' (some x)) (hx : x ≠ B) (hw : w0.heap.size ≤ x) : Rp w0 w' B zs q := by
  have hl := h.lt
  obtain ⟨⟨a, len, cap, h1, h2⟩, h3, h4, h5, h6⟩ := h
  exact ⟨⟨a, len, cap, (hg.block B hl (fun e => hx (Option.some.inj e).symm)).trans h1, h2⟩, h3, h4, h5.grown hg h5.size (fun k hk => by cases hk; exact hw), h6⟩
/-- what stands while the head's numbers are read -/
def Hs (w0 w1 : World) (B : Nat) (zs : List Int) (x : Nat) (L : Nat → Bool) (w : World) : Prop :=
  ∃ q, Rp w0 w B zs q ∧ (L 3 = false → q = 0) ∧ (L 3 = true → L 7 = false → q = 2) ∧ (L 7 = true → L 11 = false → q = 4) ∧ (L 11 = true → q = 8) ∧ w1.grownBy w (some B) ∧
    (L 13 = true → L 14 = false → Pb w x zpk ∧ w1.heap.size ≤ x) ∧ (L 14 = true → Pb w x (hpk zs) ∧ w1.heap.size ≤ x)
section
variable {w0 w1 w w2 : World} {B x : Nat} {zs : List Int} {L L' : Nat → Bool}
theorem Hs.ext (hL : ∀ j, j < 15 → L j = L' j) (h : Hs w0 w1 B zs x L w) : Hs w0 w1 B zs x L' w := by
  unfold Hs at h ⊢
  rw [← hL 3 (by decide), ← hL 7 (by decide), ← hL 11 (by decide), ← hL 13 (by decide), ← hL 14 (by decide)]
  exact h
theorem Hs.keep {i : Nat} (hi : (decide (3 = i) || decide (7 = i) || decide (11 = i) || decide (13 = i) || decide (14 = i)) = false) (h : Hs w0 w1 B zs x L w) : Hs w0 w1 B zs x (Ord.upd L i) w := by
  simp only [Bool.or_eq_false_iff] at hi
  have e3 : Ord.upd L i 3 = L 3 := by unfold Ord.upd; rw [hi.1.1.1.1]; rfl
  have e7 : Ord.upd L i 7 = L 7 := by unfold Ord.upd; rw [hi.1.1.1.2]; rfl
  have e11 : Ord.upd L i 11 = L 11 := by unfold Ord.upd; rw [hi.1.1.2]; rfl
  have e13 : Ord.upd L i 13 = L 13 := by unfold Ord.upd; rw [hi.1.2]; rfl
  have e14 : Ord.upd L i 14 = L 14 := by unfold Ord.upd; rw [hi.2]; rfl
  unfold Hs at h ⊢
  rw [e3, e7, e11, e13, e14]
  exact h
theorem Hs.at_one (h : Hs w0 w1 B zs x L w) (h3 : L 3 = false) : Rp w0 w B zs 0 := by
  obtain ⟨q, hr, q0, _⟩ := h
  rw [q0 h3] at hr
  exact hr
theorem Hs.at_two (h : Hs w0 w1 B zs x L w) (h7 : L 7 = false) (h3 : L 3 = true) : Rp w0 w B zs 2 := by
  obtain ⟨q, hr, _, q2, _⟩ := h
  rw [q2 h3 h7] at hr
  exact hr
theorem Hs.at_three (h : Hs w0 w1 B zs x L w) (h11 : L 11 = false) (h7 : L 7 = true) : Rp w0 w B zs 4 := by
  obtain ⟨q, hr, _, _, q4, _⟩ := h
  rw [q4 h7 h11] at hr
  exact hr
theorem Hs.rest (h : Hs w0 w1 B zs x L w) (hg : w.grownBy w2 (some B)) (hB : B < w1.heap.size) : w1.grownBy w2 (some B) ∧ (L 13 = true → L 14 = false → Pb w2 x zpk ∧ w1.heap.size ≤ x) ∧ (L 14 = true → Pb w2 x (hpk zs) ∧ w1.heap.size ≤ x) := by
  obtain ⟨q, _, _, _, _, _, g, n1, n2⟩ := h
  exact ⟨gr_trans g hg, fun a b => ⟨(n1 a b).1.gr hg (by have := (n1 a b).2; omega), (n1 a b).2⟩, fun a => ⟨(n2 a).1.gr hg (by have := (n2 a).2; omega), (n2 a).2⟩⟩
theorem no_of {a b : Bool} (h : b = true → a = true) (ha : a = false) : b = false := by
  cases b with
  | false => rfl
  | true => rw [h rfl] at ha; cases ha
theorem upd_same (L : Nat → Bool) (i : Nat) : Ord.upd L i i = true := by unfold Ord.upd; rw [decide_eq_true rfl]; rfl
theorem upd_ne (L : Nat → Bool) {i j : Nat} (h : decide (j = i) = false) : Ord.upd L i j = L j := by unfold Ord.upd; rw [h]; rfl
theorem Hs.to_one (h : Hs w0 w1 B zs x L w) (h3 : L 3 = false) (c7 : L 7 = true → L 3 = true) (c11 : L 11 = true → L 7 = true) (hr : Rp w0 w2 B zs (0 + 2)) (hg : w.grownBy w2 (some B)) (hB : B < w1.heap.size) : Hs w0 w1 B zs x (Ord.upd L 3) w2 := by
  have h7 := no_of c7 h3
  have h11 := no_of c11 h7
  obtain ⟨r1, r2, r3⟩ := h.rest hg hB
  unfold Hs
  rw [upd_same, upd_ne L (i := 3) (j := 7) rfl, upd_ne L (i := 3) (j := 11) rfl, upd_ne L (i := 3) (j := 13) rfl, upd_ne L (i := 3) (j := 14) rfl, h7, h11]
  exact ⟨_, hr, (fun e => Bool.noConfusion e), (fun _ _ => rfl), (fun e => Bool.noConfusion e), (fun e => Bool.noConfusion e), r1, r2, r3⟩
theorem Hs.to_two (h : Hs w0 w1 B zs x L w) (h7 : L 7 = false) (h3 : L 3 = true) (c11 : L 11 = true → L 7 = true) (hr : Rp w0 w2 B zs (2 + 2)) (hg : w.grownBy w2 (some B)) (hB : B < w1.heap.size) : Hs w0 w1 B zs x (Ord.upd L 7) w2 := by
  have h11 := no_of c11 h7
  obtain ⟨r1, r2, r3⟩ := h.rest hg hB
  unfold Hs
  rw [upd_same, upd_ne L (i := 7) (j := 3) rfl, upd_ne L (i := 7) (j := 11) rfl, upd_ne L (i := 7) (j := 13) rfl, upd_ne L (i := 7) (j := 14) rfl, h3, h11]
  exact ⟨_, hr, (fun e => Bool.noConfusion e), (fun _ e => Bool.noConfusion e), (fun _ _ => rfl), (fun e => Bool.noConfusion e), r1, r2, r3⟩
theorem Hs.to_three (h : Hs w0 w1 B zs x L w) (h11 : L 11 = false) (h7 : L 7 = true) (h3 : L 3 = true) (hr : Rp w0 w2 B zs (4 + 4)) (hg : w.grownBy w2 (some B)) (hB : B < w1.heap.size) : Hs w0 w1 B zs x (Ord.upd L 11) w2 := by
  obtain ⟨r1, r2, r3⟩ := h.rest hg hB
  unfold Hs
  rw [upd_same, upd_ne L (i := 11) (j := 3) rfl, upd_ne L (i := 11) (j := 7) rfl, upd_ne L (i := 11) (j := 13) rfl, upd_ne L (i := 11) (j := 14) rfl, h3, h7]
  exact ⟨_, hr, (fun e => Bool.noConfusion e), (fun _ e => Bool.noConfusion e), (fun _ e => Bool.noConfusion e), (fun _ => rfl), r1, r2, r3⟩
theorem Hs.to_new (h : Hs w0 w1 B zs x L w) (h13 : L 13 = false) (c14 : L 14 = true → L 13 = true) : Hs w0 w1 B zs w.heap.size (Ord.upd L 13) (w.alloc (.cells (pkc zpk) 26)) := by
  have h14 := no_of c14 h13
  obtain ⟨q, hr, q0, q2, q4, q8, g, _, _⟩ := h
  have hb := below_new w (.cells (pkc zpk) 26)
  unfold Hs
  rw [upd_same, upd_ne L (i := 13) (j := 3) rfl, upd_ne L (i := 13) (j := 7) rfl, upd_ne L (i := 13) (j := 11) rfl, upd_ne L (i := 13) (j := 14) rfl, h14]
  exact ⟨q, hr.later hb, q0, q2, q4, q8, gr_trans g (gr_below hb _), fun _ _ => ⟨Pb.new w zpk, g.size⟩, (fun e => Bool.noConfusion e)⟩
theorem Hs.new (h : Hs w0 w1 B zs x L w) (h13 : L 13 = true) (h14 : L 14 = false) : Pb w x zpk ∧ w1.heap.size ≤ x := by
  obtain ⟨q, _, _, _, _, _, _, n1, _⟩ := h
  exact n1 h13 h14
theorem Hs.to_set (h : Hs w0 w1 B zs x L w) (h13 : L 13 = true) (h14 : L 14 = false) (hB : B < w1.heap.size) : Hs w0 w1 B zs x (Ord.upd L 14) (setW w x (hpk zs)) := by
  obtain ⟨q, hr, q0, q2, q4, q8, g, n1, _⟩ := h
  obtain ⟨hpb, hx⟩ := n1 h13 h14
  have hw0 := hr.2.2.2.2
  unfold Hs
  rw [upd_same, upd_ne L (i := 14) (j := 3) rfl, upd_ne L (i := 14) (j := 7) rfl, upd_ne L (i := 14) (j := 11) rfl, upd_ne L (i := 14) (j := 13) rfl]
  exact ⟨q, hr.other (setW_gr w x _) (by omega) (by omega), q0, q2, q4, q8, gr_own g (setW_gr w x _) (fun k hk => by cases hk; exact hx), (fun _ e => Bool.noConfusion e), fun _ => ⟨hpb.set, hx⟩⟩
end
/-- what Head's reader leaves -/
def HeadO (w0 w w' : World) (B : Nat) (zs : List Int) (e : Ending) : Prop :=
  w.grownBy w' (some B) ∧ ((hcode zs = 0 ∧ e = .returned (pkv (hpk zs)) ∧ Rp w0 w' B zs 12) ∨ (hcode zs ≠ 0 ∧ e = thrown (hcode zs) 0))
set_option maxHeartbeats 1000000 in
theorem head (w0 w : World) (B : Nat) (zs : List Int) (h : Rp w0 w B zs 0) (ht : Crc.Tab w) :
    Calls Tryz.prog 37 #[.pointer (some ⟨B, 0, none⟩)] w fun e w' => HeadO w0 w w' B zs e := by
  have HT := hidden ht
  have hb0 := below_new w (.cells #[.int .u16 0, .int .u16 0, .int .u32 0, .slice none 0 0] 26)
  have HB0 := hidden hb0
  have hR0 := h.later hb0
  have HR0 := hidden hR0
  obtain ⟨⟨a, len, cap, h1, hrow, hlc, hnn⟩, _, hby, hbw, hB⟩ := hR0
  rw [List.drop_zero] at hrow
  obtain ⟨c0, f0⟩ := rd_c h1
  have hl := hrow.1
  have hBlt := h.lt
  have SZ := hidden (size_ a len cap (w.alloc (.cells #[.int .u16 0, .int .u16 0, .int .u32 0, .slice none 0 0] 26)))
  have HROW := hidden hrow
  have HNN := hidden hnn
  have HBY := hidden hby
  have hlim := hrow.2.2.1
  have hsz0 : (w.alloc (.cells #[.int .u16 0, .int .u16 0, .int .u32 0, .slice none 0 0] 26)).heap.size = w.heap.size + 1 := by simp
  clear hb0 h1 hrow hnn hby hbw ht h
  by_cases hlong : 65536 < len
  · have d1 : decide ((len : Int) ≤ 65536) = false := decide_eq_false (by omega)
    have HC := hidden (hcode_long (zs := zs) (by omega))
    go_enter Tryz.func37, Tryz.ntmps37
    go_wp2_with fail
    refine Calls.mono SZ.out ?_
    rintro e w' ⟨rfl, rfl⟩
    go_wp2_with fail
    refine Calls.mono (need_bad 2 _) ?_
    rintro e w' ⟨rfl, rfl⟩
    exact ⟨rfl, gr_below HB0.out _, .inr ⟨by rw [HC.out]; decide, by rw [HC.out]; rfl⟩⟩
  have d1 : decide ((len : Int) ≤ 65536) = true := decide_eq_true (by omega)
  by_cases hbrief : len < 12
  · have HC := hidden (hcode_brief (zs := zs) (by omega))
    have CK := hidden (Crc.check_brief a len cap (w.alloc (.cells #[.int .u16 0, .int .u16 0, .int .u32 0, .slice none 0 0] 26)) hbrief)
    go_enter Tryz.func37, Tryz.ntmps37
    go_wp2_with fail
    refine Calls.mono SZ.out ?_
    rintro e w' ⟨rfl, rfl⟩
    go_wp2_with fail
    refine Calls.mono (need_ok 2 _) ?_
    rintro e w' ⟨rfl, rfl⟩
    go_wp2_with fail
    refine Calls.mono CK.out ?_
    rintro e w' ⟨rfl, rfl⟩
    go_wp2_with fail
    refine Calls.mono (need_bad 20 _) ?_
    rintro e w' ⟨rfl, rfl⟩
    exact ⟨rfl, gr_below HB0.out _, .inr ⟨by rw [HC.out]; decide, by rw [HC.out]; rfl⟩⟩
  obtain ⟨b, off, rfl⟩ : ∃ b off, a = some ⟨b, off, none⟩ := by
    rcases HROW.out.2.2.2 with h | ⟨b, off, h, _⟩
    · omega
    · exact ⟨b, off, h⟩
  have CK := hidden (Crc.check b off len cap zs (w.alloc (.cells #[.int .u16 0, .int .u16 0, .int .u32 0, .slice none 0 0] 26)) (HT.out.later HB0.out HT.out.pos) (crow (HROW.out.later HR0.out.2.2.2.1)) (by omega) hlc (by omega))
  by_cases hsum : putOf zs = zs
  · rw [Crc.code_ok hsum] at CK
    go_enter Tryz.func37, Tryz.ntmps37
    go_wp2_with fail
    refine Calls.mono SZ.out ?_
    rintro e w' ⟨rfl, rfl⟩
    go_wp2_with fail
    refine Calls.mono (need_ok 2 _) ?_
    rintro e w' ⟨rfl, rfl⟩
    go_wp2_with fail
    refine Calls.mono CK.out ?_
    rintro e w1 ⟨rfl, b1⟩
    have HB1 := hidden (HB0.out.trans (b1.mono HB0.out.size))
    have HR1 := hidden (HR0.out.later b1)
    have hpb := (Pb.new w zpk).later b1
    have HPB := hidden hpb
    have z0 : w1.cell? ⟨w.heap.size, 0, none⟩ = some (.int .u16 0) := hpb.px.1
    have z1 : w1.cell? ⟨w.heap.size, 1, none⟩ = some (.int .u16 0) := hpb.px.2.1
    have z2 : w1.cell? ⟨w.heap.size, 2, none⟩ = some (.int .u32 0) := hpb.px.2.2.1
    have z3 : w1.cell? ⟨w.heap.size, 3, none⟩ = some (.slice none 0 0) := hpb.px.2.2.2
    have hs1 := b1.size
    clear b1 CK SZ HB0 HR0
    go_wp2_with fail
    refine Calls.mono (need_ok 0 _) ?_
    rintro e w' ⟨rfl, rfl⟩
    have hBl : B < w1.heap.size := by omega
    have e12 : 12 ≤ zs.length := by omega
    go_wp2_with fail
    refine Ord.wp_region_ex (X := Nat) (by kernel_rfl) 42 (fun x => [(some 21, .pointer (some ⟨B, 0, none⟩)), (some 22, .pointer (some ⟨B, 0, none⟩)), (some 23, .pointer (some ⟨B, 0, none⟩)), (some 24, .int .u16 (n2 zs 0)), (some 25, .pointer (some ⟨B, 0, none⟩)), (some 26, .pointer (some ⟨B, 0, none⟩)), (some 27, .pointer (some ⟨B, 0, none⟩)), (some 28, .int .u16 (n2 zs 2)), (some 29, .pointer (some ⟨B, 0, none⟩)), (some 30, .pointer (some ⟨B, 0, none⟩)), (some 31, .pointer (some ⟨B, 0, none⟩)), (some 32, .int .u32 (n4 zs 4)), (some 33, pkv (hpk zs)), (some 4, .pointer (some ⟨x, 0, none⟩)), (none, undef)]) [some 21, some 22, some 23, some 24, some 25, some 26, some 27, some 28, some 29, some 30, some 31, some 32, some 33, some 4, none] rfl (by kernel_rfl) (by rfl) (fun _ => rfl) (by kernel_rfl) (Hs w0 w1 B zs) (fun _ _ _ _ hL h => h.ext hL) ?_ ?_ 0 ?_
    case refine_1 =>
      intro x L i o ac w' ho hi hcl hdep hF hW
      match i, ho, hi, hdep with
      | 0, ho, hi, hdep =>
        cases ho
        have da0 : ac.eval (.tmp 0) = .pointer (some ⟨B, 0, none⟩) := hF.old 0 rfl
        exact Ord.ex_value x rfl rfl (q_mv _ rfl da0) rfl (hW.keep (by decide))
      | 1, ho, hi, hdep =>
        cases ho
        have da0 : ac.eval (.tmp 21) = .pointer (some ⟨B, 0, none⟩) := hF.2.2.2 0 21 _ rfl (hdep ⟨0, .data⟩ (by simp) rfl)
        exact Ord.ex_value x rfl rfl (q_nil _ da0 rfl) rfl (hW.keep (by decide))
      | 2, ho, hi, hdep =>
        cases ho
        have da0 : ac.eval (.tmp 22) = .pointer (some ⟨B, 0, none⟩) := hF.2.2.2 1 22 _ rfl (hdep ⟨1, .data⟩ (by simp) rfl)
        exact Ord.ex_value x rfl rfl (q_fa _ da0 rfl) rfl (hW.keep (by decide))
      | 3, ho, hi, hdep =>
        cases ho
        have da0 : ac.eval (.tmp 23) = .pointer (some ⟨B, 0, none⟩) := hF.2.2.2 2 23 _ rfl (hdep ⟨2, .data⟩ (by simp) rfl)
        have hrp := hW.at_one hi
        refine ex_told x rfl rfl (q_two _ da0 rfl) (Calls.mono (two w0 w' B _ zs hrp (by omega)) ?_)
        rintro e w2 ⟨rfl, hr2, hg2⟩
        exact ⟨rfl, hW.to_one hi (fun h => hcl 7 _ rfl h ⟨3, .chain⟩ (by simp) rfl) (fun h => hcl 11 _ rfl h ⟨7, .chain⟩ (by simp) rfl) hr2 hg2 hBl⟩
      | 4, ho, hi, hdep =>
        cases ho
        have da0 : ac.eval (.tmp 0) = .pointer (some ⟨B, 0, none⟩) := hF.old 0 rfl
        exact Ord.ex_value x rfl rfl (q_mv _ rfl da0) rfl (hW.keep (by decide))
      | 5, ho, hi, hdep =>
        cases ho
        have da0 : ac.eval (.tmp 25) = .pointer (some ⟨B, 0, none⟩) := hF.2.2.2 4 25 _ rfl (hdep ⟨4, .data⟩ (by simp) rfl)
        exact Ord.ex_value x rfl rfl (q_nil _ da0 rfl) rfl (hW.keep (by decide))
      | 6, ho, hi, hdep =>
        cases ho
        have da0 : ac.eval (.tmp 26) = .pointer (some ⟨B, 0, none⟩) := hF.2.2.2 5 26 _ rfl (hdep ⟨5, .data⟩ (by simp) rfl)
        exact Ord.ex_value x rfl rfl (q_fa _ da0 rfl) rfl (hW.keep (by decide))
      | 7, ho, hi, hdep =>
        cases ho
        have da0 : ac.eval (.tmp 27) = .pointer (some ⟨B, 0, none⟩) := hF.2.2.2 6 27 _ rfl (hdep ⟨6, .data⟩ (by simp) rfl)
        have hrp := hW.at_two hi (hdep ⟨3, .chain⟩ (by simp) rfl)
        refine ex_told x rfl rfl (q_two _ da0 rfl) (Calls.mono (two w0 w' B _ zs hrp (by omega)) ?_)
        rintro e w2 ⟨rfl, hr2, hg2⟩
        exact ⟨rfl, hW.to_two hi (hdep ⟨3, .chain⟩ (by simp) rfl) (fun h => hcl 11 _ rfl h ⟨7, .chain⟩ (by simp) rfl) hr2 hg2 hBl⟩
      | 8, ho, hi, hdep =>
        cases ho
        have da0 : ac.eval (.tmp 0) = .pointer (some ⟨B, 0, none⟩) := hF.old 0 rfl
        exact Ord.ex_value x rfl rfl (q_mv _ rfl da0) rfl (hW.keep (by decide))
      | 9, ho, hi, hdep =>
        cases ho
        have da0 : ac.eval (.tmp 29) = .pointer (some ⟨B, 0, none⟩) := hF.2.2.2 8 29 _ rfl (hdep ⟨8, .data⟩ (by simp) rfl)
        exact Ord.ex_value x rfl rfl (q_nil _ da0 rfl) rfl (hW.keep (by decide))
      | 10, ho, hi, hdep =>
        cases ho
        have da0 : ac.eval (.tmp 30) = .pointer (some ⟨B, 0, none⟩) := hF.2.2.2 9 30 _ rfl (hdep ⟨9, .data⟩ (by simp) rfl)
        exact Ord.ex_value x rfl rfl (q_fa _ da0 rfl) rfl (hW.keep (by decide))
      | 11, ho, hi, hdep =>
        cases ho
        have da0 : ac.eval (.tmp 31) = .pointer (some ⟨B, 0, none⟩) := hF.2.2.2 10 31 _ rfl (hdep ⟨10, .data⟩ (by simp) rfl)
        have hrp := hW.at_three hi (hdep ⟨7, .chain⟩ (by simp) rfl)
        refine ex_told x rfl rfl (q_four _ da0 rfl) (Calls.mono (four w0 w' B _ zs hrp (by omega)) ?_)
        rintro e w2 ⟨rfl, hr2, hg2⟩
        exact ⟨rfl, hW.to_three hi (hdep ⟨7, .chain⟩ (by simp) rfl) (hcl 7 _ rfl (hdep ⟨7, .chain⟩ (by simp) rfl) ⟨3, .chain⟩ (by simp) rfl)  hr2 hg2 hBl⟩
      | 12, ho, hi, hdep =>
        cases ho
        have da0 : ac.eval (.tmp 24) = .int .u16 (n2 zs 0) := hF.2.2.2 3 24 _ rfl (hdep ⟨3, .data⟩ (by simp) rfl)
        have da1 : ac.eval (.tmp 28) = .int .u16 (n2 zs 2) := hF.2.2.2 7 28 _ rfl (hdep ⟨7, .data⟩ (by simp) rfl)
        have da2 : ac.eval (.tmp 32) = .int .u32 (n4 zs 4) := hF.2.2.2 11 32 _ rfl (hdep ⟨11, .data⟩ (by simp) rfl)
        exact Ord.ex_value x rfl rfl (q_bld da0 da1 da2 rfl) rfl (hW.keep (by decide))
      | 13, ho, hi, hdep =>
        cases ho
        exact Ord.ex_letter x w'.heap.size rfl rfl (q_al rfl) rfl (fun j hj => match j, hj with | 0, _ => rfl | 1, _ => rfl | 2, _ => rfl | 3, _ => rfl | 4, _ => rfl | 5, _ => rfl | 6, _ => rfl | 7, _ => rfl | 8, _ => rfl | 9, _ => rfl | 10, _ => rfl | 11, _ => rfl | 12, _ => rfl | 13, hj => absurd hj (by rw [hi]; decide) | 14, _ => rfl | _ + 15, _ => rfl) (hW.to_new hi (fun h => hcl 14 _ rfl h ⟨13, .data⟩ (by simp) rfl))
      | 14, ho, hi, hdep =>
        cases ho
        have da0 : ac.eval (.tmp 4) = .pointer (some ⟨x, 0, none⟩) := hF.2.2.2 13 4 _ rfl (hdep ⟨13, .data⟩ (by simp) rfl)
        have da1 : ac.eval (.tmp 33) = pkv (hpk zs) := hF.2.2.2 12 33 _ rfl (hdep ⟨12, .data⟩ (by simp) rfl)
        have h13 := hdep ⟨13, .data⟩ (by simp) rfl
        exact ex_skip x rfl rfl (q_st da0 da1 rfl (hW.new h13 hi).1) rfl (hW.to_set h13 hi hBl)
    case refine_3 =>
      have hd := HR1.out.later (show Below w1.heap.size w1 w1.drew from (Below.refl _ _).drew)
      exact ⟨0, hd, (fun _ => rfl), (fun e => Bool.noConfusion e), (fun e => Bool.noConfusion e), (fun e => Bool.noConfusion e), gr_below (Below.refl _ _).drew _, (fun e => Bool.noConfusion e), (fun e => Bool.noConfusion e)⟩
    intro x w5 hW
    obtain ⟨q, hr5, _, _, _, q8, hg5, _, hn5⟩ := hW
    obtain ⟨hpb5, hx5⟩ := hn5 rfl
    rw [q8 rfl] at hr5
    have HR5 := hidden hr5
    have HG5 := hidden hg5
    have HX5 := hidden hpb5
    clear hr5 hg5 hn5 q8
    obtain ⟨y0, y1, y2, y3⟩ := hpb5.px
    clear hpb5
    simp only [Ord.puts, Ord.prs]
    unfold hpk at y0 y1 y2 y3
    simp only at y0 y1 y2 y3
    go_simp
    have FO := hidden (four w0 w5 B 8 zs HR5.out (by omega))
    go_wp2_with fail
    refine Calls.mono FO.out ?_
    rintro e w6 ⟨rfl, hr6, hg6⟩
    have hg16 := gr_trans HG5.out hg6
    have HPB6 := hidden (HPB.out.gr hg16 (by omega))
    have HX6 := hidden (HX5.out.gr hg6 (by omega))
    have HR6 := hidden hr6
    have HG6 := hidden (gr_trans (gr_below HB1.out _) hg16)
    clear hg16 hg6 hr6 FO y0 y1 y2 y3 HR5 HG5 HX5
    obtain ⟨y0, y1, y2, y3⟩ := HX6.out.px
    unfold hpk at y0 y1 y2 y3
    simp only at y0 y1 y2 y3
    have HPP := hidden (hasPorts (hpk zs) w6)
    rw [show pkv (hpk zs) = .agg #[.int .u16 (n2 zs 0), .int .u16 (n2 zs 2), .int .u32 (n4 zs 4), .slice none 0 0] from rfl] at HPP
    go_wp2_with fail
    refine Calls.mono HPP.out ?_
    rintro e w7 ⟨rfl, b7⟩
    have HPB7 := hidden (HPB6.out.later b7)
    have HX7 := hidden (HX6.out.later b7)
    have HR7 := hidden (HR6.out.later b7)
    have HG7 := hidden (gr_trans HG6.out (gr_below b7 _))
    clear b7 HPP y0 y1 y2 y3 HPB6 HX6 HR6 HG6 z0 z1 z2 z3
    by_cases hpo : (hpk zs).f ≠ 0 ∧ (hpk zs).t ≠ 0
    · rw [portsB_t hpo]
      have HC := hidden (hcode_ok (zs := zs) (by omega) (by omega) hsum (by unfold hpk at hpo; simp only at hpo; omega))
      clear hpo
      go_wp2_with fail
      refine Calls.mono (need_ok 72 _) ?_
      rintro e w' ⟨rfl, rfl⟩
      obtain ⟨y0, y1, y2, y3⟩ := HX7.out.px
      unfold hpk at y0 y1 y2 y3
      simp only at y0 y1 y2 y3
      obtain ⟨z0, z1, z2, z3⟩ := HPB7.out.px
      have k0 := HPB7.out.fr 0
      have k1 := HPB7.out.fr 1
      have k2 := HPB7.out.fr 2
      have k3 := HPB7.out.fr 3
      have HF := hidden (show HeadO w0 w (setW w7 w.heap.size (hpk zs)) B zs (.returned (pkv (hpk zs))) from
        ⟨gr_own HG7.out (setW_gr _ _ _) (fun k hk => by cases hk; exact Nat.le_refl _), .inl ⟨HC.out, rfl, HR7.out.other (setW_gr _ _ _) (by omega) (by omega)⟩⟩)
      have HS := hidden (HPB7.out.set (p := hpk zs))
      simp only [setW, pkv, pkc, hpk] at HF HS
      go_wp2
      exact bodyPost_ret (v := pkv (hpk zs)) (cell_res Tryz.results37 HS.out _ rfl) rfl HF.out
    · rw [portsB_f hpo]
      have HC := hidden (hcode_port (zs := zs) (by omega) (by omega) hsum (by unfold hpk at hpo; simp only at hpo; omega))
      clear hpo
      go_wp2_with fail
      refine Calls.mono (need_bad 72 _) ?_
      rintro e w' ⟨rfl, rfl⟩
      exact ⟨rfl, HG7.out, .inr ⟨by rw [HC.out]; decide, by rw [HC.out]; rfl⟩⟩
  · rw [Crc.code_bad hsum] at CK
    have HC := hidden (hcode_sum (zs := zs) (by omega) (by omega) hsum)
    clear hsum
    go_enter Tryz.func37, Tryz.ntmps37
    go_wp2_with fail
    refine Calls.mono SZ.out ?_
    rintro e w' ⟨rfl, rfl⟩
    go_wp2_with fail
    refine Calls.mono (need_ok 2 _) ?_
    rintro e w' ⟨rfl, rfl⟩
    go_wp2_with fail
    refine Calls.mono CK.out ?_
    rintro e w1 ⟨rfl, b1⟩
    have HB1 := hidden (HB0.out.trans (b1.mono HB0.out.size))
    clear b1
    go_wp2_with fail
    refine Calls.mono (need_bad 21 _) ?_
    rintro e w' ⟨rfl, rfl⟩
    exact ⟨rfl, gr_below HB1.out _, .inr ⟨by rw [HC.out]; decide, by rw [HC.out]; rfl⟩⟩
end Go.Proofs.YtmnndkhdekpecaaGreatDoor.Pkt
