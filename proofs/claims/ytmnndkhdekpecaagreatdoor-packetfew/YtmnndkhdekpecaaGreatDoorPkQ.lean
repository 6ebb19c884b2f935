/-
  A chunk's copy, which shares nothing with it.
  Conditions: the chunk may be, the cells hold it.
-/
import Derived.Test.YtmnndkhdekpecaaGreatDoorPkP
import Derived.Test.YtmnndkhdekpecaaGreatDoorPkS
namespace Go.Proofs.YtmnndkhdekpecaaGreatDoor.Pkt
open Go.ChangeShapes Go.WideShapes Go.ChangeAt Go.RowKit
open Chu (Ch Ck Cks Chk val cv cc ld Lies Lsts Gaps Fours Bx gcs dcs zck Nums Av AvC gr_set gr_trans gr_own gr_below)
open Par (hidden Bytes Row Prm Prms One cell_lt)
set_option linter.unusedVariables false
set_option maxRecDepth 20000
attribute [local go_sem ↓] Chu.execOp_ld Chu.execOp_bx Chu.execOp_st
attribute [local go_sem] Chu.run_box

theorem gcs_one (gs : List (Int × Int)) : ∀ u ∈ gcs gs, u.oneCell' = true := by
  intro u hu
  obtain ⟨g, _, hm⟩ := List.mem_flatMap.1 hu
  simp only [List.mem_cons, List.not_mem_nil, or_false] at hm
  rcases hm with rfl | rfl <;> rfl
theorem dcs_one (ds : List Int) : ∀ u ∈ dcs ds, u.oneCell' = true := by
  intro u hu
  obtain ⟨d, _, rfl⟩ := List.mem_map.1 hu
  rfl
theorem row_lies {base n : Nat} {w : World} {a : Option Addr} {zs : List Int} (h : Row base w a n zs) : Lies base w a (Par.cs zs) := by
  obtain ⟨h1, h2, h3, h4⟩ := h
  rcases h4 with h0 | ⟨b, off, rfl, hb, hc⟩
  · exact .inl (by rw [List.eq_nil_of_length_eq_zero (h1.trans h0)]; rfl)
  · refine .inr ⟨b, off, rfl, hb, fun j u hj => ?_⟩
    simp only [Par.cs, List.getElem?_map] at hj
    cases hz : zs[j]? with
    | none => rw [hz] at hj; cases hj
    | some z =>
      rw [hz] at hj
      have hjl := (List.getElem?_eq_some_iff.1 hz).1
      rw [hc j (by omega), List.getD_eq_getElem?_getD, hz]
      simpa using hj
theorem lies_row {base n : Nat} {w : World} {a : Option Addr} {zs : List Int} (h : Lies base w a (Par.cs zs)) (hl : zs.length = n) (hb : Bytes zs) (hn : n ≤ 140737488355328) : Row base w a n zs := by
  refine ⟨hl, hb, hn, ?_⟩
  rcases h with h0 | ⟨b, off, rfl, hbb, hc⟩
  · have := congrArg List.length h0
    rw [Par.cs_len] at this
    simp at this
    exact .inl (by rw [← hl, this]; rfl)
  · refine .inr ⟨b, off, rfl, hbb, fun j hj => ?_⟩
    exact hc j _ (by rw [Par.cs, List.getElem?_map, List.getElem?_eq_getElem (by omega), Option.map_some, List.getD_eq_getElem?_getD, List.getElem?_eq_getElem (by omega)]; rfl)
theorem prms_lies {base n : Nat} {w : World} {a : Option Addr} {ps : List Prm} (h : Prms base w a n ps) : Lies base w a (ps.flatMap Par.pc) := by
  obtain ⟨h1, h2, h3, h4⟩ := h
  rcases h4 with h0 | ⟨b, off, rfl, hb, hc⟩
  · exact .inl (by rw [List.eq_nil_of_length_eq_zero (h1.trans h0)]; rfl)
  · refine .inr ⟨b, off, rfl, hb, fun j u hj => ?_⟩
    have key : ∀ (l : List Prm) (j : Nat) (u : Value), (l.flatMap Par.pc)[j]? = some u → ∃ p, l[j / 2]? = some p ∧ (Par.pc p)[j % 2]? = some u := by
      intro l
      induction l with
      | nil => intro j u h; simp at h
      | cons q l ih =>
        intro j u h
        match j, h with
        | 0, h => exact ⟨q, rfl, by simpa [Par.pc] using h⟩
        | 1, h => exact ⟨q, rfl, by simpa [Par.pc] using h⟩
        | j + 2, h =>
          obtain ⟨p, hp1, hp2⟩ := ih j u (by simpa [Par.pc] using h)
          exact ⟨p, by rw [show (j + 2) / 2 = j / 2 + 1 by omega]; exact hp1, by rw [show (j + 2) % 2 = j % 2 by omega]; exact hp2⟩
    obtain ⟨p, hp1, hp2⟩ := key ps j u hj
    have hcc := hc (j / 2) p hp1
    rcases Nat.mod_two_eq_zero_or_one j with hm | hm
    · rw [hm] at hp2
      rw [show off + j = off + j / 2 * 2 by omega, hcc.1]
      simpa [Par.pc] using hp2
    · rw [hm] at hp2
      rw [show off + j = off + j / 2 * 2 + 1 by omega, hcc.2]
      simpa [Par.pc] using hp2
theorem pcs_one (ps : List Prm) : ∀ u ∈ ps.flatMap Par.pc, u.oneCell' = true := by
  intro u hu
  obtain ⟨p, _, hm⟩ := List.mem_flatMap.1 hu
  simp only [Par.pc, List.mem_cons, List.not_mem_nil, or_false] at hm
  rcases hm with rfl | rfl <;> rfl
theorem pcs_len (ps : List Prm) : (ps.flatMap Par.pc).length = ps.length * 2 := by
  induction ps with
  | nil => rfl
  | cons p l ih => simp [Par.pc, ih]; omega
theorem pc_get (l : List Prm) (k : Nat) (p : Prm) (h : l[k]? = some p) : (l.flatMap Par.pc)[k * 2]? = some (.int .u16 p.1) ∧ (l.flatMap Par.pc)[k * 2 + 1]? = some (.slice p.2.1 p.2.2.1 p.2.2.2.1) := by
  induction l generalizing k with
  | nil => simp at h
  | cons q l ih =>
    cases k with
    | zero =>
      obtain rfl : q = p := by simpa using h
      exact ⟨rfl, rfl⟩
    | succ k =>
      have := ih k (by simpa using h)
      rw [show (k + 1) * 2 = k * 2 + 2 by omega, show k * 2 + 2 + 1 = k * 2 + 1 + 2 by omega]
      simpa [Par.pc] using this
theorem pc_set (l : List Prm) (k : Nat) (t : Int) (a a' : Option Addr) (n n' cap cap' : Nat) (zs : List Int) (h : l[k]? = some (t, a, n, cap, zs)) : (l.flatMap Par.pc).set (k * 2 + 1) (.slice a' n' cap') = (l.set k (t, a', n', cap', zs)).flatMap Par.pc := by
  induction l generalizing k with
  | nil => simp at h
  | cons q l ih =>
    cases k with
    | zero =>
      obtain rfl : q = (t, a, n, cap, zs) := by simpa using h
      rfl
    | succ k =>
      have := ih k (by simpa using h)
      rw [show (k + 1) * 2 + 1 = k * 2 + 1 + 2 by omega]
      simp only [List.flatMap_cons, List.set_cons_succ]
      rw [← this]
      simp [Par.pc]
theorem mix_get {qs ps : List Prm} {k : Nat} (hq : qs.length = k) (hk : k < ps.length) : (qs ++ ps.drop k)[k]? = ps[k]? := by
  rw [List.getElem?_append_right (by omega), hq, Nat.sub_self, List.getElem?_drop, Nat.add_zero]
theorem mix_set {qs ps : List Prm} {k : Nat} (hq : qs.length = k) (hk : k < ps.length) (p : Prm) : (qs ++ ps.drop k).set k p = (qs ++ [p]) ++ ps.drop (k + 1) := by
  rw [List.set_append_right _ _ (by omega), hq, Nat.sub_self, List.drop_eq_getElem_cons hk, List.set_cons_zero]
  simp
/-- the block of an own row is there -/
theorem row_blk {w : World} {base E s n : Nat} {a : Option Addr} {cap : Nat} {xs : List Value} (h : w.ownsRow base E s (.slice a n cap) n xs) (hn : 0 < n) : ∃ g, a = some ⟨g, 0, none⟩ ∧ base ≤ g ∧ g < w.heap.size := by
  rcases h.2 with ⟨_, h0⟩ | ⟨g, c, cur, e, hg, hh, _⟩
  · omega
  · cases e
    exact ⟨g, rfl, hg, (Array.getElem?_eq_some_iff.1 hh).1⟩
/-- what stands while a Body is copied -/
def CpA (U : World) (P k : Nat) (len : Nat) (zs : List Int) (j : Nat) (x : Value) (w : World) : Prop :=
  (j ≤ 1 → Below U.heap.size U w) ∧ (j = 1 → ∃ a' cap', x = .slice a' len cap' ∧ Row U.heap.size w a' len zs ∧ (a' = none → len = 0 ∧ cap' = 0) ∧ len ≤ cap' ∧ cap' ≤ maxLen) ∧
    (j = 2 → ∃ w1 a' cap', Below U.heap.size U w1 ∧ x = .slice a' len cap' ∧ Row U.heap.size w1 a' len zs ∧ (a' = none → len = 0 ∧ cap' = 0) ∧ len ≤ cap' ∧ cap' ≤ maxLen ∧ w = w1.setCell ⟨P, k * 2 + 1, none⟩ x)
section
variable {a : Act} {o : Oper} {w : World}
theorem g_f14 {B : Nat} (x : Operand) (hu : a.eval x = .pointer (some ⟨B, 0, none⟩)) (ho : o.op = .fieldAddr 59 x 14) : (execOp a.eval o).run Tryz.prog w = .ok (.value (.pointer (some ⟨B, 14, none⟩))) w := by
  unfold execOp
  rw [ho]
  simp only [hu]
  exact Ord.run_v (show (Instr.fieldAt 59 (.pointer (some ⟨B, 0, none⟩)) 14).run Tryz.prog w = .ok (.pointer (some ⟨B, 14, none⟩)) w by simp [go_sem])
theorem g_ldP {q : Addr} {x0 : Option Addr} {l k : Nat} (x : Operand) (hu : a.eval x = .pointer (some q)) (ho : o.op = .load 57 x) (hc : w.cell? q = some (.slice x0 l k)) : (execOp a.eval o).run Tryz.prog w = .ok (.value (.slice x0 l k)) w := by
  unfold execOp
  rw [ho]
  simp only [hu]
  exact Ord.run_v (show (Instr.loadAt 57 (.pointer (some q))).run Tryz.prog w = .ok (.slice x0 l k) w by simp [go_sem, hc])
theorem g_ldB {q : Addr} {x0 : Option Addr} {l k : Nat} (x : Operand) (hu : a.eval x = .pointer (some q)) (ho : o.op = .load 27 x) (hc : w.cell? q = some (.slice x0 l k)) : (execOp a.eval o).run Tryz.prog w = .ok (.value (.slice x0 l k)) w := by
  unfold execOp
  rw [ho]
  simp only [hu]
  exact Ord.run_v (show (Instr.loadAt 27 (.pointer (some q))).run Tryz.prog w = .ok (.slice x0 l k) w by simp [go_sem, hc])
theorem g_f1 {B off : Nat} (x : Operand) (hu : a.eval x = .pointer (some ⟨B, off, none⟩)) (ho : o.op = .fieldAddr 114 x 1) : (execOp a.eval o).run Tryz.prog w = .ok (.value (.pointer (some ⟨B, off + 1, none⟩))) w := by
  unfold execOp
  rw [ho]
  simp only [hu]
  exact Ord.run_v (show (Instr.fieldAt 114 (.pointer (some ⟨B, off, none⟩)) 1).run Tryz.prog w = .ok (.pointer (some ⟨B, off + 1, none⟩)) w by simp [go_sem])
theorem g_ix {b len cap k : Nat} (x y : Operand) (hx : a.eval x = .slice (some ⟨b, 0, none⟩) len cap) (hy : a.eval y = .int .i64 (k : Int)) (hk : k < len) (ho : o.op = .indexAddr 57 x y) : (execOp a.eval o).run Tryz.prog w = .ok (.value (.pointer (some ⟨b, k * 2, none⟩))) w := by
  have i1 : (k : Int) < (len : Int) := by omega
  unfold execOp
  rw [ho]
  simp only [hx, hy]
  go_simp
theorem g_cl {u : Value} {T : Array TypeId} (x : Operand) (hu : a.eval x = u) (ho : o.op = .call { callee := .value (.func 100), args := #[x], argTypes := T }) : (execOp a.eval o).run Tryz.prog w = .ok (.enter 100 #[u]) w := by
  unfold execOp
  rw [ho]
  go_simp
  cases x <;> simpa [Act.eval] using hu
theorem g_sB {q : Addr} {x0 : Value} {va : Option Addr} {l k : Nat} (x y : Operand) (h0 : a.eval x = .pointer (some q)) (h1 : a.eval y = .slice va l k) (ho : o.op = .store 27 x y) (hc : w.cell? q = some x0) (hz : w.frozen? q = false) : (execOp a.eval o).run Tryz.prog w = .ok .skip (w.setCell q (.slice va l k)) := by
  unfold execOp
  rw [ho]
  simp only [h0, h1]
  simp [go_sem, hc, hz]
end
theorem Bx.kept {w w' : World} {B C : Nat} {c : Ck} (h : Bx w B c) (hg : w.grownBy w' (some C)) (hne : B ≠ C) : Bx w' B c := Chu.Bx.grown h hg hne
theorem ownLater {w w' : World} {base e s n : Nat} {v : Value} {xs : List Value} (h : w.ownsRow base e s v n xs) (hb : Below w.heap.size w w') : w'.ownsRow base e s v n xs :=
  h.kept (row := none) ⟨hb.os, hb.tape, hb.output, hb.size, fun k hk _ => hb.block k hk⟩ (Classical.em (v.ownBlock = none))
/-- the block of a chunk's parameters -/
def prow (c : Ck) : Option Nat := c.pa.map (·.block)
/-- a chunk without its parameters -/
def nop (c : Ck) : Ck := { c with pa := none, pl := 0, pc := 0, ps := [] }
theorem row_hi {w : World} {base E s n cap : Nat} {a : Option Addr} {xs : List Value} (h : w.ownsRow base E s (.slice a n cap) n xs) : ∀ b, a.map (·.block) = some b → base ≤ b := by
  intro b e
  rcases h.2 with ⟨h0, _⟩ | ⟨g, c, cur, e2, hg, _⟩
  · cases h0; cases e
  · cases e2
    simp only [Option.map_some, Option.some.injEq] at e
    omega
theorem av_new {base : Nat} {w : World} {c : Ck} {row : Option Nat} (h : Lsts base w c) (hr : ∀ b, row = some b → w.heap.size ≤ b) : AvC row c :=
  Chu.avC_of h (fun b u off _ hc e => by have h1 := hr b e.symm; have h2 := cell_lt hc; simp only at h2; omega)
theorem lsts_nop {base n : Nat} {w : World} {c : Ck} (hx : Bx w n c) (h1 : Gaps base w c.ga c.gl c.gs) (h2 : Gaps base w c.na c.nl c.ns) (h3 : Fours base w c.da c.dl c.ds) (h4 : Row base w c.ba c.bl c.bs) (h5 : c.ba = none → c.bl = 0 ∧ c.bc = 0) : Lsts base w (nop c) :=
  ⟨h1, h2, h3, h4, h5, rfl, Nat.zero_le _, fun p hp => (by cases hp), .inl rfl⟩
/-- a copy under way: the first k Bodies are copied -/
def Cpy (n : Nat) (w0 : World) (c : Ck) (k : Nat) (w : World) : Prop :=
  Below n w0 w ∧ Bx w n c ∧ Bx w (n + 1) (zck 0) ∧ Lsts (n + 2) w (nop c) ∧ AvC (prow c) (nop c) ∧
    ∃ qs : List Prm, qs.length = k ∧ qs.map Par.val = (c.ps.take k).map Par.val ∧ w.ownsRow (n + 2) 114 2 (.slice c.pa c.pl c.pc) c.pl ((qs ++ c.ps.drop k).flatMap Par.pc) ∧ ∀ q ∈ qs, One (n + 2) w q ∧ Av (prow c) q.2.1 q.2.2.1
theorem Cpy.later {n k : Nat} {w0 w w' : World} {c : Ck} (h : Cpy n w0 c k w) (hb : Below w.heap.size w w') : Cpy n w0 c k w' := by
  obtain ⟨h1, h2, h3, h4, h5, qs, q1, q2, q3, q4⟩ := h
  have hn := h3.lt
  exact ⟨h1.trans (hb.mono (by omega)), h2.later hb, h3.later hb, h4.later hb, h5, qs, q1, q2, ownLater q3 hb, fun q hq => ⟨(q4 q hq).1.later hb, (q4 q hq).2⟩⟩
theorem Cpy.start {n : Nat} {w0 w : World} {c : Ck} (h1 : Below n w0 w) (h2 : Bx w n c) (h3 : Bx w (n + 1) (zck 0)) (h4 : Lsts (n + 2) w (nop c)) (h5 : AvC (prow c) (nop c)) (h6 : w.ownsRow (n + 2) 114 2 (.slice c.pa c.pl c.pc) c.pl (c.ps.flatMap Par.pc)) : Cpy n w0 c 0 w :=
  ⟨h1, h2, h3, h4, h5, [], rfl, rfl, h6, fun _ h => by cases h⟩
/-- the cells of the next one -/
theorem Cpy.get {n k : Nat} {w0 w : World} {c : Ck} {p : Prm} (h : Cpy n w0 c k w) (hl : c.ps.length = c.pl) (hp : c.ps[k]? = some p) : ∃ g, c.pa = some ⟨g, 0, none⟩ ∧ n + 2 ≤ g ∧ g < w.heap.size ∧ w.cell? ⟨g, k * 2, none⟩ = some (.int .u16 p.1) ∧ w.cell? ⟨g, k * 2 + 1, none⟩ = some (.slice p.2.1 p.2.2.1 p.2.2.2.1) ∧ w.frozen? ⟨g, k * 2 + 1, none⟩ = false := by
  obtain ⟨h1, h2, h3, h4, h5, qs, q1, q2, q3, q4⟩ := h
  have hk := (List.getElem?_eq_some_iff.1 hp).1
  obtain ⟨g, e, hg1, hg2⟩ := row_blk q3 (by omega)
  obtain ⟨a, cap, e2, hli, _⟩ := own_lies q3
  cases e2
  have hm : (qs ++ c.ps.drop k)[k]? = some p := (mix_get q1 hk).trans hp
  obtain ⟨m1, m2⟩ := pc_get _ k p hm
  rcases hli with h0 | ⟨b, off, e3, _, hc⟩
  · rw [h0] at m1; cases m1
  · rw [e] at e3
    cases e3
    have c1 := hc _ _ m1
    have c2 := hc _ _ m2
    rw [Nat.zero_add] at c1 c2
    rw [e] at q3
    exact ⟨g, e, hg1, hg2, c1, c2, q3.frozenAt _⟩
/-- one more -/
theorem Cpy.step {n k : Nat} {w0 w : World} {c : Ck} {t : Int} {a a' : Option Addr} {len cap cap' m g : Nat} {zs : List Int} (h : Cpy n w0 c k w) (hl : c.ps.length = c.pl) (hp : c.ps[k]? = some (t, a, len, cap, zs)) (ht : 0 ≤ t ∧ t < 65536)
    (hg : c.pa = some ⟨g, 0, none⟩) (hgm : g < m) (hm : n + 2 ≤ m) (hr : Row m w a' len zs) (hno : a' = none → len = 0 ∧ cap' = 0) (hlc : len ≤ cap') (hcm : cap' ≤ maxLen) : Cpy n w0 c (k + 1) (w.setCell ⟨g, k * 2 + 1, none⟩ (.slice a' len cap')) := by
  obtain ⟨h1, h2, h3, h4, h5, qs, q1, q2, q3, q4⟩ := h
  have hk := (List.getElem?_eq_some_iff.1 hp).1
  have hrow : prow c = some g := by simp [prow, hg]
  have hgn : n + 2 ≤ g := row_hi q3 g hrow
  have hgr := gr_set w g (k * 2 + 1) (.slice a' len cap')
  rw [hrow] at h5 q4
  have hav : Av (some g) a' len := by
    rcases Nat.eq_zero_or_pos len with h0 | hpos
    · exact .inl h0
    · obtain ⟨b, off, e, hb, _⟩ := hr.2.2.2.resolve_left (by omega)
      refine .inr (fun b' off' s e' => ?_)
      rw [e] at e'
      cases e'
      intro e''
      cases e''
      omega
  have hst := hg ▸ q3
  have hset := (hst.stored (k * 2 + 1) (.slice a' len cap')).1
  rw [pc_set _ k t a a' len len cap cap' zs ((mix_get q1 hk).trans hp), mix_set q1 hk] at hset
  refine ⟨h1.grown hgr (Nat.le_of_lt h2.lt) ?_, Chu.Bx.grown h2 hgr (by omega), Chu.Bx.grown h3 hgr (by omega), Chu.lsts_gr h4 h5 hgr, hrow ▸ h5, qs ++ [(t, a', len, cap', zs)], by simp [q1], ?_, hg ▸ hset, ?_⟩
  · intro b e; cases e; have := h1.size; omega
  · rw [List.take_add_one, hp, List.map_append, List.map_append, q2]
    rfl
  · intro q hq
    rw [hrow]
    rcases List.mem_append.1 hq with hq | hq
    · exact ⟨⟨(q4 q hq).1.1, Chu.row_gr (q4 q hq).1.2.1 (q4 q hq).2 hgr, (q4 q hq).1.2.2⟩, (q4 q hq).2⟩
    · cases List.mem_singleton.1 hq
      exact ⟨⟨ht, (Chu.row_gr hr hav hgr).mono hm, hlc, hcm, hno⟩, hav⟩
/-- all of them -/
theorem Cpy.all {n : Nat} {w0 w : World} {c : Ck} (h : Cpy n w0 c c.pl w) (hl : c.ps.length = c.pl) (hN : Nums c) (hpl : c.pl ≤ 140737488355328) : ∃ c', cv c' = cv c ∧ cc c' = cc c ∧ val c' = val c ∧ Chk (n + 2) w c' := by
  obtain ⟨h1, h2, h3, h4, h5, qs, q1, q2, q3, q4⟩ := h
  rw [← hl, List.take_length] at q2
  rw [← hl, List.drop_length, List.append_nil] at q3
  refine ⟨{ c with ps := qs }, rfl, rfl, by unfold val; simp only [q2], hN, h4.1, h4.2.1, h4.2.2.1, h4.2.2.2.1, h4.2.2.2.2.1, q1, hpl, fun q hq => (q4 q hq).1, ?_⟩
  obtain ⟨a, cap, e, hli, _⟩ := own_lies q3
  cases e
  rcases hli with h0 | ⟨b, off, e, hb, hc⟩
  · refine .inl ?_
    have := congrArg List.length h0
    rw [pcs_len] at this
    simp at this
    show c.pl = 0
    omega
  · exact .inr ⟨b, off, e, hb, fun j p hj => by
      obtain ⟨m1, m2⟩ := pc_get _ j p hj
      exact ⟨hc _ _ m1, by rw [Nat.add_assoc]; exact hc _ _ m2⟩⟩
theorem sto_gr (w : World) (B : Nat) (c : Ck) : w.grownBy (Chu.stoW w B c) (some B) := by
  have h := Chu.stoW_below (B := B) c (Below.refl 0 w) (Nat.zero_le _)
  exact ⟨h.os, h.tape, h.output, h.size, fun k hk hne => Chu.other_setCells B k (fun e => hne (by rw [e])) _ _ _⟩
set_option maxHeartbeats 2000000 in
theorem copyOf (base : Nat) (c : Ck) (w : World) (hc : Chk base w c) (hk : Chu.chk (val c) = 0) :
    Calls Tryz.prog 74 #[cv c] w fun e w' => ∃ c', e = .returned (cv c') ∧ val c' = val c ∧ Chk w.heap.size w' c' ∧ Below w.heap.size w w' := by
  obtain ⟨_, hl, hp, hv⟩ := Chu.chk_ok hk
  obtain ⟨hp1, hp2⟩ := Chu.pcode_le hp
  obtain ⟨HN, hg, hn, hd, hbo, hbn, hpm⟩ := hc
  have s1 : c.gl ≤ 4096 := by rw [← hg.1]; exact Nat.le_of_not_lt fun h => hl (.inl h)
  have s2 : c.nl ≤ 4096 := by rw [← hn.1]; exact Nat.le_of_not_lt fun h => hl (.inr (.inl h))
  have s3 : c.dl ≤ 4096 := by rw [← hd.1]; exact Nat.le_of_not_lt fun h => hl (.inr (.inr h))
  have s4 : c.bl ≤ 65531 := by
    have h2 : (val c).bs.length ≤ Chu.vlen (val c) := by unfold Chu.vlen; omega
    have h3 : (val c).bs = c.bs := rfl
    rw [h3, hbo.1] at h2
    omega
  have s5 : c.pl ≤ 256 := by rw [← hpm.1]; simpa [val] using hp1
  have s6 : ∀ p ∈ c.ps, p.2.2.1 ≤ 65531 := fun p hp => by
    have := hp2 (Par.val p) (List.mem_map.2 ⟨p, hp, rfl⟩)
    rw [← (hpm.2.2.1 p hp).2.1.1]
    exact this
  have HS6 := hidden s6
  have HGA := hidden hg
  have HNA := hidden hn
  have HDA := hidden hd
  have HBO := hidden hbo
  have HPM := hidden hpm
  clear hl hp hv hp1 hp2 hg hn hd hbo hbn hpm hk s6
  have hb0 : Below w.heap.size w ((w.alloc (.cells (cc c) 59)).alloc (.cells #[.int .u8 0, .int .u8 0, .int .u32 0, .int .u16 0, .int .u16 0, .int .u32 0, .int .u32 0, .int .u32 0, .int .u16 0, .int .u16 0, .slice none 0 0, .slice none 0 0, .slice none 0 0, .slice none 0 0, .slice none 0 0] 59)) := ((Below.refl _ w).alloc (Nat.le_refl _) _).alloc (by simp) _
  have hx0 : Bx ((w.alloc (.cells (cc c) 59)).alloc (.cells #[.int .u8 0, .int .u8 0, .int .u32 0, .int .u16 0, .int .u16 0, .int .u32 0, .int .u32 0, .int .u32 0, .int .u16 0, .int .u16 0, .slice none 0 0, .slice none 0 0, .slice none 0 0, .slice none 0 0, .slice none 0 0] 59)) w.heap.size c := (Chu.Bx.new w c).alloc _
  have hy0 : Bx ((w.alloc (.cells (cc c) 59)).alloc (.cells #[.int .u8 0, .int .u8 0, .int .u32 0, .int .u16 0, .int .u16 0, .int .u32 0, .int .u32 0, .int .u32 0, .int .u16 0, .int .u16 0, .slice none 0 0, .slice none 0 0, .slice none 0 0, .slice none 0 0, .slice none 0 0] 59)) (w.heap.size + 1) (zck 0) := by
    have := Chu.Bx.new (w.alloc (.cells (cc c) 59)) (zck 0)
    rw [World.size_alloc] at this
    exact this
  have hs0 : ((w.alloc (.cells (cc c) 59)).alloc (.cells #[.int .u8 0, .int .u8 0, .int .u32 0, .int .u16 0, .int .u16 0, .int .u32 0, .int .u32 0, .int .u32 0, .int .u16 0, .int .u16 0, .slice none 0 0, .slice none 0 0, .slice none 0 0, .slice none 0 0, .slice none 0 0] 59)).heap.size = w.heap.size + 2 := by simp
  have HB := hidden hb0
  have HX := hidden hx0
  have HY := hidden hy0
  have d10 := hx0.c10
  clear hb0 hx0 hy0
  go_enter Tryz.func74, Tryz.ntmps74
  go_wp2_with fail
  generalize hW : World.alloc (World.alloc w _) _ = W at *
  clear hW
  refine Calls.mono (cloneGap base W c.ga c.gl c.gc (gcs c.gs) ((HGA.out.later HB.out).2.2.2) (by rw [Chu.gcs_len c.gs, HGA.out.1]) (gcs_one c.gs) (by omega)) ?_
  rintro e w1 ⟨v10, rfl, ho, b⟩
  obtain ⟨a10, k10, rfl, hli, hno, hlc, hcm⟩ := own_lies ho
  have hs1 := b.size
  have e1 : (w1.setCell ⟨w.heap.size, 10, none⟩ (.slice a10 c.gl k10)).heap.size = w1.heap.size := by simp [World.setCell]
  have HB' := hidden ((HB.out.trans (b.mono HB.out.size)).grown (gr_set w1 w.heap.size 10 (.slice a10 c.gl k10)) (HB.out.trans (b.mono HB.out.size)).size (fun q hq => by cases hq; exact Nat.le_refl _))
  have HX' := hidden ((HX.out.later b).s10 a10 c.gl k10 c.gs)
  have HY' := hidden (Chu.Bx.grown (HY.out.later b) (gr_set w1 w.heap.size 10 (.slice a10 c.gl k10)) (by omega))
  have F10 := hidden (show Gaps (w.heap.size + 2) (w1.setCell ⟨w.heap.size, 10, none⟩ (.slice a10 c.gl k10)) a10 c.gl c.gs from ⟨HGA.out.1, HGA.out.2.1, HGA.out.2.2.1, ((hli.mono (show w.heap.size + 2 ≤ W.heap.size by omega)).set (x := ⟨w.heap.size, 10, none⟩) (by simp only; omega) _)⟩)
  have f10 := (HX.out.later b).fr 10
  have q10 := (HX.out.later b).c10
  have d11 := HX'.out.c11
  clear HB HX HY ho b hli hno hlc hcm  d10
  obtain ⟨HB, HX, HY⟩ : Hid _ ∧ Hid _ ∧ Hid _ := ⟨HB', HX', HY'⟩
  clear HB' HX' HY'
  go_wp2_with fail
  generalize hV : World.setCell w1 _ _ = W1 at *
  clear hV f10 q10
  refine Calls.mono (cloneGap base W1 c.na c.nl c.nc (gcs c.ns) ((HNA.out.later HB.out).2.2.2) (by rw [Chu.gcs_len c.ns, HNA.out.1]) (gcs_one c.ns) (by omega)) ?_
  rintro e w2 ⟨v11, rfl, ho, b⟩
  obtain ⟨a11, k11, rfl, hli, hno, hlc, hcm⟩ := own_lies ho
  have hs2 := b.size
  have e2 : (w2.setCell ⟨w.heap.size, 11, none⟩ (.slice a11 c.nl k11)).heap.size = w2.heap.size := by simp [World.setCell]
  have HB' := hidden ((HB.out.trans (b.mono HB.out.size)).grown (gr_set w2 w.heap.size 11 (.slice a11 c.nl k11)) (HB.out.trans (b.mono HB.out.size)).size (fun q hq => by cases hq; exact Nat.le_refl _))
  have HX' := hidden ((HX.out.later b).s11 a11 c.nl k11 c.ns)
  have HY' := hidden (Chu.Bx.grown (HY.out.later b) (gr_set w2 w.heap.size 11 (.slice a11 c.nl k11)) (by omega))
  have F10' := hidden ((F10.out.later b).set (x := ⟨w.heap.size, 11, none⟩) (by simp only; omega) (.slice a11 c.nl k11))
  have F11 := hidden (show Gaps (w.heap.size + 2) (w2.setCell ⟨w.heap.size, 11, none⟩ (.slice a11 c.nl k11)) a11 c.nl c.ns from ⟨HNA.out.1, HNA.out.2.1, HNA.out.2.2.1, ((hli.mono (show w.heap.size + 2 ≤ W1.heap.size by omega)).set (x := ⟨w.heap.size, 11, none⟩) (by simp only; omega) _)⟩)
  have f11 := (HX.out.later b).fr 11
  have q11 := (HX.out.later b).c11
  have d12 := HX'.out.c12
  clear HB HX HY ho b hli hno hlc hcm F10 d11
  obtain ⟨HB, HX, HY⟩ : Hid _ ∧ Hid _ ∧ Hid _ := ⟨HB', HX', HY'⟩
  clear HB' HX' HY'
  have F10 := F10'
  clear F10'
  go_wp2_with fail
  generalize hV : World.setCell w2 _ _ = W2 at *
  clear hV f11 q11
  refine Calls.mono (cloneU32 base W2 c.da c.dl c.dc (dcs c.ds) ((HDA.out.later HB.out).2.2.2) (by rw [show (dcs c.ds).length = c.ds.length from List.length_map _, HDA.out.1]; omega) (dcs_one c.ds) (by omega)) ?_
  rintro e w3 ⟨v12, rfl, ho, b⟩
  obtain ⟨a12, k12, rfl, hli, hno, hlc, hcm⟩ := own_lies ho
  have hs3 := b.size
  have e3 : (w3.setCell ⟨w.heap.size, 12, none⟩ (.slice a12 c.dl k12)).heap.size = w3.heap.size := by simp [World.setCell]
  have HB' := hidden ((HB.out.trans (b.mono HB.out.size)).grown (gr_set w3 w.heap.size 12 (.slice a12 c.dl k12)) (HB.out.trans (b.mono HB.out.size)).size (fun q hq => by cases hq; exact Nat.le_refl _))
  have HX' := hidden ((HX.out.later b).s12 a12 c.dl k12 c.ds)
  have HY' := hidden (Chu.Bx.grown (HY.out.later b) (gr_set w3 w.heap.size 12 (.slice a12 c.dl k12)) (by omega))
  have F10' := hidden ((F10.out.later b).set (x := ⟨w.heap.size, 12, none⟩) (by simp only; omega) (.slice a12 c.dl k12))
  have F11' := hidden ((F11.out.later b).set (x := ⟨w.heap.size, 12, none⟩) (by simp only; omega) (.slice a12 c.dl k12))
  have F12 := hidden (show Fours (w.heap.size + 2) (w3.setCell ⟨w.heap.size, 12, none⟩ (.slice a12 c.dl k12)) a12 c.dl c.ds from ⟨HDA.out.1, HDA.out.2.1, HDA.out.2.2.1, ((hli.mono (show w.heap.size + 2 ≤ W2.heap.size by omega)).set (x := ⟨w.heap.size, 12, none⟩) (by simp only; omega) _)⟩)
  have f12 := (HX.out.later b).fr 12
  have q12 := (HX.out.later b).c12
  have d13 := HX'.out.c13
  clear HB HX HY ho b hli hno hlc hcm F10 F11 d12
  obtain ⟨HB, HX, HY⟩ : Hid _ ∧ Hid _ ∧ Hid _ := ⟨HB', HX', HY'⟩
  clear HB' HX' HY'
  have F10 := F10'
  clear F10'
  have F11 := F11'
  clear F11'
  go_wp2_with fail
  generalize hV : World.setCell w3 _ _ = W3 at *
  clear hV f12 q12
  refine Calls.mono (cloneByte base W3 c.ba c.bl c.bc (Par.cs c.bs) (row_lies (HBO.out.later HB.out)) (by rw [Par.cs_len c.bs, HBO.out.1]; omega) (Par.cs_one c.bs) (by omega)) ?_
  rintro e w4 ⟨v13, rfl, ho, b⟩
  obtain ⟨a13, k13, rfl, hli, hno, hlc, hcm⟩ := own_lies ho
  have hs4 := b.size
  have e4 : (w4.setCell ⟨w.heap.size, 13, none⟩ (.slice a13 c.bl k13)).heap.size = w4.heap.size := by simp [World.setCell]
  have HB' := hidden ((HB.out.trans (b.mono HB.out.size)).grown (gr_set w4 w.heap.size 13 (.slice a13 c.bl k13)) (HB.out.trans (b.mono HB.out.size)).size (fun q hq => by cases hq; exact Nat.le_refl _))
  have HX' := hidden ((HX.out.later b).s13 a13 c.bl k13 c.bs)
  have HY' := hidden (Chu.Bx.grown (HY.out.later b) (gr_set w4 w.heap.size 13 (.slice a13 c.bl k13)) (by omega))
  have F10' := hidden ((F10.out.later b).set (x := ⟨w.heap.size, 13, none⟩) (by simp only; omega) (.slice a13 c.bl k13))
  have F11' := hidden ((F11.out.later b).set (x := ⟨w.heap.size, 13, none⟩) (by simp only; omega) (.slice a13 c.bl k13))
  have F12' := hidden ((F12.out.later b).set (x := ⟨w.heap.size, 13, none⟩) (by simp only; omega) (.slice a13 c.bl k13))
  have F13 := hidden (show Row (w.heap.size + 2) (w4.setCell ⟨w.heap.size, 13, none⟩ (.slice a13 c.bl k13)) a13 c.bl c.bs from (lies_row (hli.mono (show w.heap.size + 2 ≤ W3.heap.size by omega)) HBO.out.1 HBO.out.2.1 HBO.out.2.2.1).set (x := ⟨w.heap.size, 13, none⟩) (by simp only; omega) _)
  have N13 := hidden hno
  have f13 := (HX.out.later b).fr 13
  have q13 := (HX.out.later b).c13
  have d14 := HX'.out.c14
  clear HB HX HY ho b hli hno hlc hcm F10 F11 F12 d13
  obtain ⟨HB, HX, HY⟩ : Hid _ ∧ Hid _ ∧ Hid _ := ⟨HB', HX', HY'⟩
  clear HB' HX' HY'
  have F10 := F10'
  clear F10'
  have F11 := F11'
  clear F11'
  have F12 := F12'
  clear F12'
  go_wp2_with fail
  generalize hV : World.setCell w4 _ _ = W4 at *
  clear hV f13 q13
  have L4 := hidden (lsts_nop HX.out F10.out F11.out F12.out F13.out N13.out)
  refine Calls.mono (clonePrm base W4 c.pa c.pl c.pc (c.ps.flatMap Par.pc) (prms_lies (HPM.out.later HB.out)) (by rw [pcs_len c.ps, HPM.out.1]) (pcs_one c.ps) (by omega)) ?_
  rintro e w5 ⟨v14, rfl, ho, b⟩
  obtain ⟨a14, k14, rfl, hli, hno, hlc, hcm⟩ := own_lies ho
  have hs5 := b.size
  have HAV := hidden (av_new L4.out (row_hi ho))
  clear L4
  have e5 : (w5.setCell ⟨w.heap.size, 14, none⟩ (.slice a14 c.pl k14)).heap.size = w5.heap.size := by simp [World.setCell]
  have HB' := hidden ((HB.out.trans (b.mono HB.out.size)).grown (gr_set w5 w.heap.size 14 (.slice a14 c.pl k14)) (HB.out.trans (b.mono HB.out.size)).size (fun q hq => by cases hq; exact Nat.le_refl _))
  have HX' := hidden ((HX.out.later b).s14 a14 c.pl k14 c.ps)
  have HY' := hidden (Chu.Bx.grown (HY.out.later b) (gr_set w5 w.heap.size 14 (.slice a14 c.pl k14)) (by omega))
  have F10' := hidden ((F10.out.later b).set (x := ⟨w.heap.size, 14, none⟩) (by simp only; omega) (.slice a14 c.pl k14))
  have F11' := hidden ((F11.out.later b).set (x := ⟨w.heap.size, 14, none⟩) (by simp only; omega) (.slice a14 c.pl k14))
  have F12' := hidden ((F12.out.later b).set (x := ⟨w.heap.size, 14, none⟩) (by simp only; omega) (.slice a14 c.pl k14))
  have F13' := hidden ((F13.out.later b).set (x := ⟨w.heap.size, 14, none⟩) (by simp only; omega) (.slice a14 c.pl k14))
  have HOW := hidden (ownsRow_setCell_below (Crc.own_le ho (show w.heap.size + 2 ≤ W4.heap.size by omega)) (a := ⟨w.heap.size, 14, none⟩) (by simp only; omega) (.slice a14 c.pl k14))
  have f14 := (HX.out.later b).fr 14
  have q14 := (HX.out.later b).c14
  have d15 := HX'.out.c14
  have CP0 := Cpy.start HB'.out HX'.out HY'.out (lsts_nop HX'.out F10'.out F11'.out F12'.out F13'.out N13.out) HAV.out HOW.out
  obtain ⟨C, HC, CP⟩ : ∃ C : Ck, Hid (C.pa = a14 ∧ C.pl = c.pl ∧ C.pc = k14 ∧ C.ps = c.ps ∧ val C = val c ∧ Nums C) ∧ Hid (Cpy w.heap.size w C 0 (w5.setCell ⟨w.heap.size, 14, none⟩ (.slice a14 c.pl k14))) :=
    by
      refine ⟨_, ?_, hidden CP0⟩
      exact hidden ⟨rfl, rfl, rfl, rfl, rfl, HN⟩
  clear CP0
  clear HB HX HY ho b hli hno hlc hcm F10 F11 F12 F13 d14 HB' HX' HY' F10' F11' F12' F13' HAV HOW N13 HGA HNA HDA HBO HN
  go_wp2_with fail
  generalize hV : World.setCell w5 _ _ = W5 at *
  have hs6 : w.heap.size + 2 ≤ W5.heap.size := by omega
  clear hV f14 q14 d15 hs0 hs1 hs2 hs3 hs4 hs5 e1 e2 e3 e4 e5
  have hplC : C.ps.length = C.pl := by rw [HC.out.2.2.2.1, HC.out.2.1]; exact HPM.out.1
  have HPL := hidden hplC
  clear hplC
  go_loopw [28] (fun i wr => ∃ k : Nat, k ≤ c.pl ∧ i = .int .i64 k ∧ Cpy w.heap.size w C k wr) (fun i _ => c.pl - (intOf i).toNat)
  case atStart => exact ⟨0, Nat.zero_le _, rfl, CP.out⟩
  case round =>
    obtain ⟨k, hk, rfl, hcp⟩ := hrel
    rcases Nat.lt_or_ge k c.pl with hlt | hge
    · obtain ⟨⟨t, a, len, cap, zs⟩, hp⟩ : ∃ p, C.ps[k]? = some p := ⟨_, List.getElem?_eq_getElem (by rw [HC.out.2.2.2.1, HPM.out.1]; omega)⟩
      obtain ⟨g, hg, hg1, hg2, c1, c2, f1⟩ := hcp.get HPL.out hp
      obtain rfl : a14 = some ⟨g, 0, none⟩ := HC.out.1.symm.trans hg
      have hcx := hcp.2.1.c14
      rw [HC.out.1, HC.out.2.1, HC.out.2.2.1] at hcx
      have HCP := hidden hcp
      have HP := hidden hp
      have HG := hidden hg
      have i1 : ((k : Nat) : Int) < (c.pl : Int) := by omega
      have i0 : w.heap.size < wr.heap.size := hcp.2.1.lt
      simp only at c1 c2
      clear hcp hp hg
      go_wp2_with fail
      have hbU := below_new wr (.cells #[.int .u16 t, .slice a len cap] 114)
      have HCU := hidden (HCP.out.later hbU)
      have HBU := hidden (show (wr.alloc (.cells #[.int .u16 t, .slice a len cap] 114)).cell? ⟨wr.heap.size, 1, none⟩ = some (.slice a len cap) by simp [go_sem])
      have hgU : g < (wr.alloc (.cells #[.int .u16 t, .slice a len cap] 114)).heap.size := by simp; omega
      clear hbU HCP c1 c2 f1 hcx
      generalize hQ : World.alloc wr _ = U at *
      clear hQ
      generalize hBx : wr.heap.size = B at *
      clear hBx
      have HON := hidden (HPM.out.2.2.1 (t, a, len, cap, zs) (by rw [← HC.out.2.2.2.1]; exact List.mem_of_getElem? HP.out))
      have hlen := HS6.out (t, a, len, cap, zs) (by rw [← HC.out.2.2.2.1]; exact List.mem_of_getElem? HP.out)
      simp only at hlen
      refine Ord.wp_region_ex (X := Value) (by kernel_rfl) 43 (fun x => [(some 33, .pointer (some ⟨w.heap.size, 14, none⟩)), (some 34, .slice (some ⟨g, 0, none⟩) c.pl k14), (some 35, .int .i64 (k : Int)), (some 36, .pointer (some ⟨B, 1, none⟩)), (some 37, .slice a len cap), (some 38, x), (some 39, .pointer (some ⟨g, k * 2, none⟩)), (some 40, .pointer (some ⟨g, k * 2 + 1, none⟩)), (none, undef)]) [some 33, some 34, some 35, some 36, some 37, some 38, some 39, some 40, none] rfl (by kernel_rfl) (by rfl) (fun _ => rfl) (by kernel_rfl) (StM [5, 8] (CpA U g k len zs)) (fun _ _ _ _ hL h => h.ext (n := 9) (by decide) hL) ?_ ?_ undef ?_
      case refine_1 =>
        intro x L i o ac w' ho hi hcl hdep hF hW
        match i, ho, hi, hdep with
        | 0, ho, hi, hdep =>
          cases ho
          have da0 : ac.eval (.tmp 1) = .pointer (some ⟨w.heap.size, 0, none⟩) := hF.old 1 rfl
          exact Ord.ex_value x rfl rfl (g_f14 _ da0 rfl) rfl (hW.keep (by decide))
        | 1, ho, hi, hdep =>
          cases ho
          have da0 : ac.eval (.tmp 33) = .pointer (some ⟨w.heap.size, 14, none⟩) := hF.2.2.2 0 33 _ rfl (hdep ⟨0, .data⟩ (by simp) rfl)
          have h8 : L 8 = false := no_of (fun h => hcl 6 _ rfl (hcl 7 _ rfl (hcl 8 _ rfl h ⟨7, .data⟩ (by simp) rfl) ⟨6, .data⟩ (by simp) rfl) ⟨1, .data⟩ (by simp) rfl) hi
          obtain ⟨j, hj, hA⟩ := hW.early (n := 1) rfl h8
          have hcx := (HCU.out.later (hA.1 hj)).2.1.c14
          rw [HC.out.1, HC.out.2.1, HC.out.2.2.1] at hcx
          exact Ord.ex_value x rfl rfl (g_ldP _ da0 rfl hcx) rfl (hW.keep (by decide))
        | 2, ho, hi, hdep =>
          cases ho
          have da0 : ac.eval (.tmp 3) = .int .i64 (k : Int) := hF.old 3 rfl
          exact Ord.ex_value x rfl rfl (q_mv _ rfl da0) rfl (hW.keep (by decide))
        | 3, ho, hi, hdep =>
          cases ho
          have da0 : ac.eval (.tmp 4) = .pointer (some ⟨B, 0, none⟩) := hF.old 4 rfl
          exact Ord.ex_value x rfl rfl (g_f1 _ da0 rfl) rfl (hW.keep (by decide))
        | 4, ho, hi, hdep =>
          cases ho
          have da0 : ac.eval (.tmp 36) = .pointer (some ⟨B, 1, none⟩) := hF.2.2.2 3 36 _ rfl (hdep ⟨3, .data⟩ (by simp) rfl)
          have h5 : L 5 = false := no_of (fun h => hcl 5 _ rfl h ⟨4, .data⟩ (by simp) rfl) hi
          have hA := hW.at (k := 0) rfl h5 (.inl rfl)
          exact Ord.ex_value x rfl rfl (g_ldB _ da0 rfl (((hA.1 (by decide)).cell (cell_lt HBU.out)).trans HBU.out)) rfl (hW.keep (by decide))
        | 5, ho, hi, hdep =>
          cases ho
          have da0 : ac.eval (.tmp 37) = .slice a len cap := hF.2.2.2 4 37 _ rfl (hdep ⟨4, .data⟩ (by simp) rfl)
          have hA := hW.at (k := 0) rfl hi (.inl rfl)
          have hb0 := hA.1 (by decide)
          have hrow := HON.out.2.1.later ((HCU.out.1).trans (hb0.mono (Nat.le_of_lt HCU.out.2.1.lt)))
          have hrl : zs.length = len := hrow.1
          refine Ord.ex_call x (fun v => v) rfl rfl (g_cl _ da0 rfl) (fun _ => rfl) (fun v j hj => match j, hj with | 0, _ => rfl | 1, _ => rfl | 2, _ => rfl | 3, _ => rfl | 4, _ => rfl | 5, hj => absurd hj (by rw [hi]; decide) | 6, _ => rfl | 7, _ => rfl | 8, _ => rfl | _ + 9, _ => rfl) (Calls.mono (cloneByte base w' a len cap (Par.cs zs) (row_lies hrow) (by rw [Par.cs_len zs, hrl]; omega) (Par.cs_one zs) (by omega)) ?_)
          rintro e w1 ⟨v, rfl, how, hb1⟩
          obtain ⟨a', cap', rfl, hli, hno, hlc, hcm⟩ := own_lies how
          have hb2 : Below U.heap.size U w1 := hb0.trans (hb1.mono hb0.size)
          exact ⟨_, rfl, hW.next (k := 0) rfl (by decide) hi (.inl rfl) ⟨fun _ => hb2, fun _ => ⟨a', cap', rfl, (lies_row hli hrow.1 hrow.2.1 hrow.2.2.1).mono hb0.size, hno, hlc, hcm⟩, fun e => by cases e⟩⟩
        | 6, ho, hi, hdep =>
          cases ho
          have da0 : ac.eval (.tmp 34) = .slice (some ⟨g, 0, none⟩) c.pl k14 := hF.2.2.2 1 34 _ rfl (hdep ⟨1, .data⟩ (by simp) rfl)
          have da1 : ac.eval (.tmp 35) = .int .i64 (k : Int) := hF.2.2.2 2 35 _ rfl (hdep ⟨2, .data⟩ (by simp) rfl)
          exact Ord.ex_value x rfl rfl (g_ix _ _ da0 da1 hlt rfl) rfl (hW.keep (by decide))
        | 7, ho, hi, hdep =>
          cases ho
          have da0 : ac.eval (.tmp 39) = .pointer (some ⟨g, k * 2, none⟩) := hF.2.2.2 6 39 _ rfl (hdep ⟨6, .data⟩ (by simp) rfl)
          exact Ord.ex_value x rfl rfl (g_f1 _ da0 rfl) rfl (hW.keep (by decide))
        | 8, ho, hi, hdep =>
          cases ho
          have da0 : ac.eval (.tmp 40) = .pointer (some ⟨g, k * 2 + 1, none⟩) := hF.2.2.2 7 40 _ rfl (hdep ⟨7, .data⟩ (by simp) rfl)
          have da1 : ac.eval (.tmp 38) = x := hF.2.2.2 5 38 _ rfl (hdep ⟨5, .data⟩ (by simp) rfl)
          have hA := hW.at (k := 1) rfl hi (.inr ⟨5, rfl, hdep ⟨5, .data⟩ (by simp) rfl⟩)
          have hb1 := hA.1 (by decide)
          obtain ⟨a', cap', rfl, hr, hno, hlc, hcm⟩ := hA.2.1 rfl
          obtain ⟨g', hg', _, _, _, c2, f1⟩ := (HCU.out.later hb1).get HPL.out HP.out
          rw [HG.out] at hg'
          cases hg'
          exact ex_skip _ rfl rfl (g_sB _ _ da0 da1 rfl c2 f1) rfl (hW.next (k := 1) rfl (by decide) hi (.inr ⟨5, rfl, hdep ⟨5, .data⟩ (by simp) rfl⟩) ⟨fun e => absurd e (by decide), fun e => (by cases e), fun _ => ⟨w', a', cap', hb1, rfl, hr, hno, hlc, hcm, rfl⟩⟩)
      case refine_3 => exact ⟨0, by decide, (fun j c hj => ⟨fun e => Bool.noConfusion e, fun e => absurd e (Nat.not_lt_zero _)⟩), (fun _ => (Below.refl _ _).drew), (fun e => by cases e), (fun e => by cases e)⟩
      intro x w2 hW
      simp only [Ord.puts, Ord.prs]
      go_simp
      obtain ⟨j, hj1, hj2, hA⟩ := hW
      have hj3 := (hj2 1 8 rfl).1 rfl
      obtain rfl : j = 2 := by simp at hj1; omega
      obtain ⟨w1, a', cap', hb1, rfl, hr, hno, hlc, hcm, rfl⟩ := hA.2.2 rfl
      have HNX := hidden ((HCU.out.later hb1).step HPL.out HP.out HON.out.1 HG.out hgU (Nat.le_of_lt_succ (Nat.lt_succ_of_le HCU.out.2.2.1.lt)) hr hno hlc hcm)
      clear hj1 hj2 hj3 hA hb1 hr hno hlc hcm
      go_wp2
      go_roundw
      case rel => exact ⟨k + 1, by omega, by go_num, HNX.out⟩
      case measure => simp [intOf]; omega
    · obtain rfl : k = c.pl := by omega
      have d1 := hcp.2.1.ld
      have d2 := Chu.sto_run hcp.2.2.1 C
      have HEND : Hid (∃ c', cv c' = cv C ∧ cc c' = cc C ∧ val c' = val c ∧ Chk w.heap.size (Chu.stoW wr (w.heap.size + 1) C) c' ∧ Bx (Chu.stoW wr (w.heap.size + 1) C) (w.heap.size + 1) C ∧ Below w.heap.size w (Chu.stoW wr (w.heap.size + 1) C)) := by
        have hcp' : Cpy w.heap.size w C C.pl wr := by rw [HC.out.2.1]; exact hcp
        obtain ⟨c', e1, e2, e3, e4⟩ := hcp'.all HPL.out HC.out.2.2.2.2.2 (by rw [HC.out.2.1]; omega)
        have hg := sto_gr wr (w.heap.size + 1) C
        have hav : AvC (some (w.heap.size + 1)) c' := Chu.avC_of e4.2 (fun b u off hb _ e => by cases e; omega)
        exact hidden ⟨c', e1, e2, e3.trans HC.out.2.2.2.2.1, ⟨e4.1, (Chu.lsts_gr e4.2 hav hg).mono (by omega)⟩, Chu.stoW_bx hcp.2.2.1 C, Chu.stoW_below C hcp.1 (by omega)⟩
      clear hcp
      go_wp2
      obtain ⟨c', e1, e2, e3, e4, e5, e6⟩ := HEND.out
      exact bodyPost_ret (v := cv C) (Chu.cell_res Tryz.results74 e5 _ rfl) rfl ⟨c', by rw [e1], e3, e4, e6⟩
end Go.Proofs.YtmnndkhdekpecaaGreatDoor.Pkt
