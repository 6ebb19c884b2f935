/-
  Operations of the rows of a bundle.
  Conditions: as at each lemma.
-/
import Derived.Test.YtmnndkhdekpecaaGreatDoorPkT
import Derived.Test.YtmnndkhdekpecaaGreatDoorPkN
namespace Go.Proofs.YtmnndkhdekpecaaGreatDoor.Pkt
open Go.ChangeShapes Go.WideShapes Go.ChangeAt Go.RowKit
open Chu (Ch Ck Cks Chk val cv cc ccs ld Lies Lsts Gaps Fours Bx gcs dcs zck Nums Av AvC gr_set gr_trans gr_own gr_below clen tot)
open Par (hidden Bytes Row Prm Prms One cell_lt)
set_option linter.unusedVariables false
set_option maxRecDepth 20000

theorem lies_ccs {w : World} {base E s n : Nat} {v : Value} {l : List Ck} (h : w.ownsRow base E s v n (ccs l)) : ∃ a cap, v = .slice a n cap ∧ Lies base w a (ccs l) := by
  obtain ⟨a, cap, e, hl, _⟩ := own_lies h
  exact ⟨a, cap, e, hl⟩
/-- a row of a list of rows can be read -/
theorem RL.row {n cb : Nat} {v : Value} {R : List (Value × List Ck)} {w : World} {r : Value × List Ck} (h : RL n cb v R w) (hr : r ∈ R) (hl : r.2.length ≤ 1000000000000) : ∃ a cap, r.1 = .slice a r.2.length cap ∧ Cks (min n cb) w a r.2.length r.2 := by
  obtain ⟨a, cap, e, hli⟩ := lies_ccs (h.2.1 r hr).2
  exact ⟨a, cap, e, rfl, hl, fun c hc => chk_mono (h.2.2.2 r hr c hc).1 (Nat.min_le_right _ _), hli.mono (Nat.min_le_left _ _)⟩
/-- a row's slice stands in the list -/
theorem RL.cell {n cb k : Nat} {a : Option Addr} {cap len : Nat} {R : List (Value × List Ck)} {w : World} {r : Value × List Ck} (h : RL n cb (.slice a len cap) R w) (hr : R[k]? = some r) : ∃ g, a = some ⟨g, 0, none⟩ ∧ len = R.length ∧ n ≤ g ∧ g < w.heap.size ∧ w.cell? ⟨g, k, none⟩ = some r.1 ∧ w.frozen? ⟨g, k, none⟩ = false := by
  have hk := (List.getElem?_eq_some_iff.1 hr).1
  obtain ⟨g, cap', e, _, hg, hg2⟩ := own_some h.1 (by omega)
  cases e
  obtain ⟨a', c', e', hli, _⟩ := own_lies h.1
  cases e'
  have hm : (R.map (·.1))[k]? = some r.1 := by rw [List.getElem?_map, hr]; rfl
  rcases hli with h0 | ⟨b, off, e2, _, hc⟩
  · rw [h0] at hm; cases hm
  · cases e2
    have := hc k _ hm
    rw [Nat.zero_add] at this
    exact ⟨g, rfl, rfl, hg, hg2, this, h.1.frozenAt _⟩
theorem run_bsl2 (c d : Ck) (w : World) : (Instr.buildSlice 24 2 #[(0, cv c), (1, cv d)]).run Tryz.prog w = .ok (.slice (some ⟨w.heap.size, 0, none⟩) 2 2) (w.alloc (.cells (cc c ++ cc d) 59)) := by kernel_rfl
section
variable {a : Act} {o : Oper} {w : World}
theorem r_le {u v : Int} (x y : Operand) (hx : a.eval x = .int .i64 u) (hy : a.eval y = .int .i64 v) (h : u ≤ v) (ho : o.op = .binOp .leq 3 x y 3) : (execOp a.eval o).run Tryz.prog w = .ok (.value (.bool true)) w := by
  unfold execOp
  rw [ho]
  simp only [hx, hy]
  go_simp
theorem r_ixL {b len cap k : Nat} {z : Int} (x y : Operand) (hx : a.eval x = .slice (some ⟨b, 0, none⟩) len cap) (hy : a.eval y = .int .i64 z) (hz : z = (k : Int)) (hk : k < len) (ho : o.op = .indexAddr 48 x y) : (execOp a.eval o).run Tryz.prog w = .ok (.value (.pointer (some ⟨b, k, none⟩))) w := by
  have i1 : (k : Int) < (len : Int) := by omega
  subst hz
  unfold execOp
  rw [ho]
  simp only [hx, hy]
  go_simp
theorem r_ix0 {b len cap : Nat} (x : Operand) (hx : a.eval x = .slice (some ⟨b, 0, none⟩) len cap) (hk : 0 < len) (ho : o.op = .indexAddr 24 x (.const (.int .i64 0))) : (execOp a.eval o).run Tryz.prog w = .ok (.value (.pointer (some ⟨b, 0, none⟩))) w := by
  have i1 : (0 : Int) < (len : Int) := by omega
  have e : a.eval (.const (.int .i64 0)) = .int .i64 0 := rfl
  unfold execOp
  rw [ho]
  simp only [hx, e]
  go_simp
theorem r_ldR {q : Addr} {x0 : Option Addr} {l k : Nat} (x : Operand) (hu : a.eval x = .pointer (some q)) (ho : o.op = .load 24 x) (hc : w.cell? q = some (.slice x0 l k)) : (execOp a.eval o).run Tryz.prog w = .ok (.value (.slice x0 l k)) w := by
  unfold execOp
  rw [ho]
  simp only [hu]
  exact Ord.run_v (show (Instr.loadAt 24 (.pointer (some q))).run Tryz.prog w = .ok (.slice x0 l k) w by simp [go_sem, hc])
theorem r_ldC {q : Addr} {c : Ck} (x : Operand) (hu : a.eval x = .pointer (some q)) (ho : o.op = .load 59 x) (hl : (ld (.pointer (some q))).run Tryz.prog w = .ok (cv c) w) : (execOp a.eval o).run Tryz.prog w = .ok (.value (cv c)) w := by
  unfold execOp
  rw [ho]
  simp only [hu]
  exact Ord.run_v hl
theorem r_bs2 {c d : Ck} (x y : Operand) (hx : a.eval x = cv c) (hy : a.eval y = cv d) (ho : o.op = .buildSlice 24 2 #[(0, x), (1, y)]) : (execOp a.eval o).run Tryz.prog w = .ok (.value (.slice (some ⟨w.heap.size, 0, none⟩) 2 2)) (w.alloc (.cells (cc c ++ cc d) 59)) := by
  unfold execOp
  rw [ho]
  simp only [List.map_toArray, List.map_cons, List.map_nil, hx, hy]
  exact Ord.run_v (run_bsl2 c d w)
theorem r_bs1 {c : Ck} (x : Operand) (hx : a.eval x = cv c) (ho : o.op = .buildSlice 24 1 #[(0, x)]) : (execOp a.eval o).run Tryz.prog w = .ok (.value (.slice (some ⟨w.heap.size, 0, none⟩) 1 1)) (w.alloc (.cells (cc c) 59)) := by
  unfold execOp
  rw [ho]
  simp only [List.map_toArray, List.map_cons, List.map_nil, hx]
  exact Ord.run_v (Chu.run_bsl c w)
theorem r_tog {u : Value} {T : Array TypeId} (x : Operand) (hu : a.eval x = u) (ho : o.op = .call { callee := .value (.func 24), args := #[x], argTypes := T }) : (execOp a.eval o).run Tryz.prog w = .ok (.enter 24 #[u]) w := by
  unfold execOp
  rw [ho]
  go_simp
  cases x <;> simpa [Act.eval] using hu
theorem r_cpy {u : Value} {T : Array TypeId} (x : Operand) (hu : a.eval x = u) (ho : o.op = .call { callee := .value (.func 74), args := #[x], argTypes := T }) : (execOp a.eval o).run Tryz.prog w = .ok (.enter 74 #[u]) w := by
  unfold execOp
  rw [ho]
  go_simp
  cases x <;> simpa [Act.eval] using hu
theorem r_pick {v : Value} (x y z : Operand) (hx : a.eval x = .bool true) (hy : a.eval y = v) (ho : o.op = .pick x y z) : (execOp a.eval o).run Tryz.prog w = .ok (.value v) w := by
  unfold execOp
  rw [ho]
  simp only [hx, hy]
  rfl
theorem r_ap {w' : World} {u v r : Value} (x y : Operand) (h0 : a.eval x = u) (h1 : a.eval y = v) (ho : o.op = .call { callee := .builtin .append, args := #[x, y], argTypes := #[24, 24] }) (hr : (Builtin.append_ #[24, 24] o.type #[u, v]).run Tryz.prog w = .ok r w') : (execOp a.eval o).run Tryz.prog w = .ok (.value r) w' := by
  unfold execOp
  simp only [ho, resolve, invoke, builtin, Sem.run_bind, Sem.run_pure, Result.andThen_ok, List.map_toArray, List.map_cons, List.map_nil, h0, h1, hr]
theorem r_sR {q : Addr} {x0 : Value} {va : Option Addr} {l k : Nat} (x y : Operand) (h0 : a.eval x = .pointer (some q)) (h1 : a.eval y = .slice va l k) (ho : o.op = .store 24 x y) (hc : w.cell? q = some x0) (hz : w.frozen? q = false) : (execOp a.eval o).run Tryz.prog w = .ok .skip (w.setCell q (.slice va l k)) := by
  unfold execOp
  rw [ho]
  simp only [h0, h1]
  simp [go_sem, hc, hz]
end
theorem arr_cell (X : Array Value) (w : World) (j : Nat) (u : Value) (hj : X.toList[j]? = some u) : (w.alloc (.cells X 59)).cell? ⟨w.heap.size, j, none⟩ = some u := by
  have h1 := heap_alloc_new w (.cells X 59)
  simp only [World.cell?, h1]
  simpa using hj
/-- two chunks as a row of their own -/
theorem cks2 {base : Nat} {w : World} {c d : Ck} (hc : Chk base w c) (hd : Chk base w d) : Cks 0 (w.alloc (.cells (cc c ++ cc d) 59)) (some ⟨w.heap.size, 0, none⟩) 2 [c, d] := by
  have hb := below_new w (.cells (cc c ++ cc d) 59)
  refine ⟨rfl, by decide, fun x hx => ?_, .inr ⟨w.heap.size, 0, rfl, Nat.zero_le _, fun j u hj => ?_⟩⟩
  · simp only [List.mem_cons, List.not_mem_nil, or_false] at hx
    rcases hx with rfl | rfl
    · exact chk_mono (hc.later hb) (Nat.zero_le _)
    · exact chk_mono (hd.later hb) (Nat.zero_le _)
  · have e : ccs [c, d] = (cc c ++ cc d).toList := by simp [ccs]
    rw [e] at hj
    rw [Nat.zero_add]
    exact arr_cell (cc c ++ cc d) w j u hj
/-- the question whether two chunks may stand together, step by step -/
def TgA (U : World) (c d : Ck) (j : Nat) (x : Value × Value) (w : World) : Prop :=
  Below U.heap.size U w ∧ (1 ≤ j → ∃ B, x.1 = .slice (some ⟨B, 0, none⟩) 2 2 ∧ Cks 0 w (some ⟨B, 0, none⟩) 2 [c, d]) ∧ (2 ≤ j → ∃ t : Bool, x.2 = .bool t ∧ (t = true ↔ ¬ Mixed [val c, val d]))
theorem TgA.s0 {base : Nat} {U w : World} {c d : Ck} {x : Value × Value} (h : TgA U c d 0 x w) (hc : Chk base U c) (hd : Chk base U d) : TgA U c d 1 (.slice (some ⟨w.heap.size, 0, none⟩) 2 2, x.2) (w.alloc (.cells (cc c ++ cc d) 59)) :=
  ⟨h.1.trans ((below_new w _).mono h.1.size), fun _ => ⟨_, rfl, cks2 (hc.later h.1) (hd.later h.1)⟩, fun e => by omega⟩
/-- a chunk laid into the last row, step by step -/
def GrA (n cb : Nat) (K : Ck → Prop) (U : World) (g i : Nat) (c : Ck) (rv : Value) (l : List Ck) (j : Nat) (x : Value × Value × Value) (w : World) : Prop :=
  (j ≤ 2 → Below U.heap.size U w) ∧ (j = 1 → ∃ c', x.1 = cv c' ∧ val c' = val c ∧ Chk cb w c' ∧ K c') ∧
    (j = 2 → ∃ c' u, val c' = val c ∧ Below U.heap.size U u ∧ (Chk cb u c' ∧ K c') ∧ x.2.1 = .slice (some ⟨u.heap.size, 0, none⟩) 1 1 ∧ w = u.alloc (.cells (cc c') 59)) ∧
    (3 ≤ j → ∃ c' w1 w2, val c' = val c ∧ Below U.heap.size U w1 ∧ (Chk cb w1 c' ∧ K c') ∧ w2.ownsRow n 59 15 x.2.2 (l.length + 1) (ccs l ++ (cc c').toList) ∧ w1.grownBy w2 rv.ownBlock ∧ (x.2.2.ownBlock = rv.ownBlock ∨ x.2.2.ownBlock = some w1.heap.size) ∧ (j = 3 → w = w2) ∧ (j = 4 → w = w2.setCell ⟨g, i, none⟩ x.2.2))
section
variable {n cb g i : Nat} {K : Ck → Prop} {U w : World} {c : Ck} {rv : Value} {l : List Ck} {x : Value × Value × Value}
theorem GrA.zero (hb : Below U.heap.size U w) : GrA n cb K U g i c rv l 0 x w := ⟨fun _ => hb, fun e => (by cases e), fun e => (by cases e), fun e => by omega⟩
theorem GrA.s0 {w1 : World} {c' : Ck} (h : GrA n cb K U g i c rv l 0 x w) (e : val c' = val c) (hc : Chk cb w1 c') (hK : K c') (hb : Below w.heap.size w w1) : GrA n cb K U g i c rv l 1 (cv c', x.2) w1 := by
  have hb0 := h.1 (by decide)
  exact ⟨fun _ => hb0.trans (hb.mono hb0.size), fun _ => ⟨c', rfl, e, hc, hK⟩, fun e => (by cases e), fun e => by omega⟩
theorem GrA.s1 {c' : Ck} (h : GrA n cb K U g i c rv l 1 x w) (hx : x.1 = cv c') (e : val c' = val c) (hc : Chk cb w c') (hK : K c') : GrA n cb K U g i c rv l 2 (x.1, .slice (some ⟨w.heap.size, 0, none⟩) 1 1, x.2.2) (w.alloc (.cells (cc c') 59)) := by
  have hb0 := h.1 (by decide)
  exact ⟨fun _ => hb0.trans ((below_new w _).mono hb0.size), fun e => (by cases e), fun _ => ⟨c', w, e, hb0, ⟨hc, hK⟩, rfl, rfl⟩, fun e => by omega⟩
theorem GrA.s2 (h : GrA n cb K U g i c rv l 2 x w) (hn : n ≤ U.heap.size) (hown : U.ownsRow n 59 15 rv l.length (ccs l)) (hl : l.length ≤ 1000000) (ty : TypeId) : ∃ v' w', (Builtin.append_ #[24, 24] ty #[rv, x.2.1]).run Tryz.prog w = .ok v' w' ∧ GrA n cb K U g i c rv l 3 (x.1, x.2.1, v') w' := by
  obtain ⟨i0, hi, hz0, hz1, hz2⟩ := info_parts Chu.infoC3
  have hb := h.1 (by decide)
  obtain ⟨c', u, e, hbu, ⟨hcu, hK⟩, hx, rfl⟩ := h.2.2.1 rfl
  have how := ownLater hown hb
  obtain ⟨v', w', h1, h2, h3, _⟩ := run_append_own (P := Tryz.prog) _ n 24 ty 59 i0 (cv (zck 0)) 15 152 Tryz.underlying24 hi hz0 hz1 hz2 rfl (by decide) _ _ _ how ⟨u.heap.size, 0, none⟩ 1 1 (cc c').toList rfl (Chu.cells_cc u c') (Chu.cc_one c') (by unfold maxLen; omega) (by omega) (Nat.le_trans hn hb.size)
  have h5 := Chu.append_where (ty := ty) (P := Tryz.prog) Tryz.underlying24 hi hz0 (by rw [hz1]; exact how) (by rw [hz1]; rfl) (Chu.cells_cc u c') (Chu.cc_one c') (by decide) (by unfold maxLen; omega) (by rw [hz2]; omega) h1
  rw [← hx] at h1
  refine ⟨v', w', h1, fun e => by omega, fun e => (by cases e), fun e => (by cases e), fun _ => ⟨c', _, w', e, hb, ⟨hcu.later (below_new u _), hK⟩, h2, h3, h5, fun _ => rfl, fun e => (by cases e)⟩⟩
theorem GrA.s3 (h : GrA n cb K U g i c rv l 3 x w) : GrA n cb K U g i c rv l 4 x (w.setCell ⟨g, i, none⟩ x.2.2) := by
  obtain ⟨c', w1, w2, e, h1, h2, h3, h4, h5, h6, _⟩ := h.2.2.2 (by decide)
  obtain rfl := h6 rfl
  exact ⟨fun e => by omega, fun e => (by cases e), fun e => (by cases e), fun _ => ⟨c', w1, w, e, h1, h2, h3, h4, h5, fun e => (by cases e), fun _ => rfl⟩⟩
end
end Go.Proofs.YtmnndkhdekpecaaGreatDoor.Pkt
