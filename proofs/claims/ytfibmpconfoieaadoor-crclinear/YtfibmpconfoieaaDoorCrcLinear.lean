/-
  For every three rows of bytes the law CrcLinear returns true: the sum of them laid on one another (as far as the shortest goes) is their sums laid on one another (P2.5). Conditions: none; the table nibbleSteps starts as the program's text lays it (the card ties it).
-/
import Derived.Test.YtfibmpconfoieaaDoorCards
import Derived.Test.YtfibmpconfoieaaDoorTie
import Derived.WalkKit
import Derived.ProofKit
import Derived.OpenShut
import Derived.ShutString
import Derived.ChangeOld
import Derived.Below
import Derived.SizedLaws
import Derived.Deep.DeepHandedRow
import Derived.Lib.LaidTab
import Derived.Test.YtfibmpconfoieaaDoorOrders
import Derived.Test.YtfibmpconfoieaaDoorLay
import Derived.Deep.AppendLies
import Derived.Deep.RegionHeld3
import Derived.Deep.DrawnRows
namespace Go.Proofs.YtfibmpconfoieaaDoor.crcLinear
open Go.ChangeShapes Go.WideShapes Go.ChangeAt Go.RowKit
set_option linter.unusedVariables false

theorem own : ownKnob Tryd.prog.godebug = none := by kernel_rfl
theorem laidOut : laidOutB Tryd.prog = true := by kernel_rfl
theorem gTab : Tryd.prog.globalNamed "ropewalk/crc.nibbleSteps" = some 0 := by kernel_rfl
theorem gTabType : (Tryd.prog.globals[0]?).map (·.type) = some 45 := by kernel_rfl
theorem table {W : World} (h : laidMetH Tryd.prog Rows.crcLinearRow.laid W) : Crc.Tab W := fun i hi =>
  (show Lib.TabIs Tryd.prog W "ropewalk/crc.nibbleSteps" .u32 Crc.tab from
    Lib.tabIs_of_head (rest := []) gTab gTabType Tryd.underlying45 Tryd.underlying23 (by kernel_rfl) (by kernel_rfl) h).cell gTab i hi

theorem next {w w1 : World} {k g c : Nat} {xs ys zs : List Int} (hown1 : w1.ownsRow w.heap.size 5 1 (.slice (some ⟨g, 0, none⟩) (k + 1) c) (k + 1) ((Crc.lay xs ys zs k).map (Value.int .u8) ++ [.int .u8 (Crc.lay3 (xs.getD k 0) (ys.getD k 0) (zs.getD k 0))])) :
    w1.ownsRow w.heap.size 5 1 (.slice (some ⟨g, 0, none⟩) (k + 1) c) (k + 1) ((Crc.lay xs ys zs (k + 1)).map (Value.int .u8)) := by
  rw [Crc.lay_succ, List.map_append]
  exact hown1

structure Dat where
  a0 : Option Addr
  a1 : Option Addr
  a2 : Option Addr
  aa : Option Addr
  l0 : Nat
  l1 : Nat
  l2 : Nat
  c0 : Nat
  c1 : Nat
  c2 : Nat
  cA : Nat
  n : Nat
  z0 : List Int
  z1 : List Int
  z2 : List Int
/-- a row of one part, laid for a call -/
def built (w : World) (v : Value) (p : Option Addr × Nat × Nat × List Int) : Prop := ∃ g, v = .slice (some ⟨g, 0, none⟩) 1 1 ∧ Crc.Parts w (some ⟨g, 0, none⟩) 1 [p]
theorem built.later {w w' : World} {v : Value} {p : Option Addr × Nat × Nat × List Int} (h : built w v p) (hb : Below w.heap.size w w') : built w' v p := by
  obtain ⟨g, h1, h2⟩ := h
  exact ⟨g, h1, h2.later hb⟩
/-- what each operation of the last statement leaves -/
def E (d : Dat) : Nat → Value → World → Prop
  | 0, v, w => v = .slice d.aa d.n d.cA
  | 1, v, w => built w v (d.aa, d.n, d.cA, Crc.lay d.z0 d.z1 d.z2 d.n)
  | 2, v, w => v = .int .u32 ((Crc.sum (Crc.lay d.z0 d.z1 d.z2 d.n) : Nat) : Int)
  | 3, v, w => v = .slice d.a0 d.l0 d.c0
  | 4, v, w => v = .int .i64 (d.n : Int)
  | 5, v, w => v = .slice d.a0 d.n d.c0
  | 6, v, w => built w v (d.a0, d.n, d.c0, d.z0.take d.n)
  | 7, v, w => v = .int .u32 ((Crc.sum (d.z0.take d.n) : Nat) : Int)
  | 8, v, w => v = .slice d.a1 d.l1 d.c1
  | 9, v, w => v = .int .i64 (d.n : Int)
  | 10, v, w => v = .slice d.a1 d.n d.c1
  | 11, v, w => built w v (d.a1, d.n, d.c1, d.z1.take d.n)
  | 12, v, w => v = .int .u32 ((Crc.sum (d.z1.take d.n) : Nat) : Int)
  | 13, v, w => v = .int .u32 ((Crc.sum (d.z0.take d.n) ^^^ Crc.sum (d.z1.take d.n) : Nat) : Int)
  | 14, v, w => v = .slice d.a2 d.l2 d.c2
  | 15, v, w => v = .int .i64 (d.n : Int)
  | 16, v, w => v = .slice d.a2 d.n d.c2
  | 17, v, w => built w v (d.a2, d.n, d.c2, d.z2.take d.n)
  | 18, v, w => v = .int .u32 ((Crc.sum (d.z2.take d.n) : Nat) : Int)
  | 19, v, w => v = .int .u32 ((Crc.sum (Crc.lay d.z0 d.z1 d.z2 d.n) : Nat) : Int)
  | 20, v, w => v = .bool true
  | 21, v, w => v = .bool true
  | 22, v, w => v = .bool true
  | 23, v, w => v = .bool true
  | 24, v, w => v = .bool true
  | _, _, _ => True
theorem lays {a : Act} {o : Oper} (x : Operand) (p : Option Addr) (n c : Nat) (hv : a.eval x = .slice p n c) (ho : o.op = .buildSlice 30 1 #[(0, x)]) (w : World) : (execOp a.eval o).run Tryd.prog w = .ok (.value (.slice (some ⟨w.heap.size, 0, none⟩) 1 1)) (w.alloc (.cells #[.slice p n c] 22)) := by
  unfold execOp
  rw [ho]
  simp only [List.map_toArray, List.map_cons, List.map_nil, hv]
  go_simp
theorem xors {a : Act} {o : Oper} {p q : Int} (x y : Operand) (ho : o.op = .binOp .xor 23 x y 23) (hx : a.eval x = .int .u32 p) (hy : a.eval y = .int .u32 q) (w : World) :
    (execOp a.eval o).run Tryd.prog w = .ok (.value (.int .u32 (bits .xor .u32 p q))) w := by
  unfold execOp
  rw [ho]
  simp only [hx, hy]
  go_simp
theorem eqls {a : Act} {o : Oper} {p : Int} (x y : Operand) (ho : o.op = .binOp .eql 23 x y 23) (hx : a.eval x = .int .u32 p) (hy : a.eval y = .int .u32 p) (w : World) :
    (execOp a.eval o).run Tryd.prog w = .ok (.value (.bool true)) w := by
  unfold execOp
  rw [ho]
  simp only [hx, hy]
  go_simp
theorem enters {a : Act} {o : Oper} (x : Operand) (v : Value) (hv : a.eval x = v) (ho : o.op = .call { callee := .value (.func 9), args := #[x], argTypes := #[30] }) (w : World) : (execOp a.eval o).run Tryd.prog w = .ok (.enter 9 #[v]) w := by
  unfold execOp
  rw [ho]
  go_simp
  cases x <;> simpa [Act.eval] using hv
theorem enters0 {a : Act} {o : Oper} (ho : o.op = .call { callee := .value (.func 13), args := #[], argTypes := #[] }) (w : World) : (execOp a.eval o).run Tryd.prog w = .ok (.enter 13 #[]) w := by
  unfold execOp
  rw [ho]
  go_simp
theorem slices {a : Act} {o : Oper} (x y : Operand) (p : Option Addr) (len cap n : Nat) (hn : n ≤ len) (hc : len ≤ cap) (hnil : p = none → len = 0 ∧ cap = 0) (ho : o.op = .slice 22 x none (some y) none) (hx : a.eval x = .slice p len cap) (hy : a.eval y = .int .i64 (n : Int)) (w : World) : (execOp a.eval o).run Tryd.prog w = .ok (.value (.slice p n cap)) w := by
  have h1 : (0 : Int) ≤ (n : Int) := by omega
  have h2 : (n : Int) ≤ (cap : Int) := by omega
  unfold execOp
  rw [ho]
  simp only [Option.map_none, Option.map_some, hx, hy]
  cases p with
  | none =>
    obtain ⟨rfl, rfl⟩ := hnil rfl
    obtain rfl : n = 0 := by omega
    go_simp
  | some x => go_simp
theorem picks {a : Act} {o : Oper} (x y : Operand) (z : Operand) (ho : o.op = .pick x y z) (hx : a.eval x = .bool true) (hy : a.eval y = .bool true) (w : World) : (execOp a.eval o).run Tryd.prog w = .ok (.value (.bool true)) w := by
  unfold execOp
  rw [ho]
  simp [hx, hy, asBool]
theorem wanted22 {a : Act} {ops : Array Oper} {o : Oper} (da : a.eval (.tmp 61) = .bool true) (hs : a.tmps.size = 64) (ho : o.guard = some (21, true)) (h21 : (ops[21]?).bind (·.dst) = some 61) : Region.wanted o (yielded ops a.tmps) = true := by
  have e : a.tmps[61]? = some (.bool true) := by
    have : a.tmps.getD 61 undef = .bool true := da
    rw [Array.getD_eq_getD_getElem?, Array.getElem?_eq_getElem (by omega)] at this
    rw [Array.getElem?_eq_getElem (by omega)]
    simpa using this
  simp [Region.wanted, yielded, ho, h21, e]
theorem E_later (d : Dat) {v : Value} {w w' : World} (hb : Below w.heap.size w w') : ∀ j, E d j v w → E d j v w' := fun j h => match j, h with
  | 0, h => h
  | 1, h => h.later hb
  | 2, h => h
  | 3, h => h
  | 4, h => h
  | 5, h => h
  | 6, h => h.later hb
  | 7, h => h
  | 8, h => h
  | 9, h => h
  | 10, h => h
  | 11, h => h.later hb
  | 12, h => h
  | 13, h => h
  | 14, h => h
  | 15, h => h
  | 16, h => h
  | 17, h => h.later hb
  | 18, h => h
  | 19, h => h
  | 20, h => h
  | 21, h => h
  | 22, h => h
  | 23, h => h
  | 24, h => h
  | _ + 25, _ => trivial
def D (j : Nat) : Nat := if j = 24 then 6 else 40 + j
def G (d : Dat) (W : World) (a : Act) (w : World) : Prop :=
  a.tmps.size = 64 ∧ a.defers = [] ∧ a.eval (.tmp 0) = .slice d.a0 d.l0 d.c0 ∧ a.eval (.tmp 1) = .slice d.a1 d.l1 d.c1 ∧ a.eval (.tmp 2) = .slice d.a2 d.l2 d.c2 ∧ a.eval (.tmp 7) = .int .i64 (d.n : Int) ∧ a.eval (.tmp 8) = .slice d.aa d.n d.cA ∧
    Below W.heap.size W w
def F (d : Dat) (j : Nat) (a : Act) (w : World) : Prop := E d j (a.eval (.tmp (D j))) w
theorem post {d : Dat} {W : World} {a : Act} {w w' : World} (hG : G d W a w) (i : Nat) (hi : i < 25) (v : Value) (hb : Below w.heap.size w w') (hE : E d i v w') :
    G d W (a.put (some (D i)) v) w' ∧ F d i (a.put (some (D i)) v) w' ∧ ∀ j, j ≠ i → F d j a w → F d j (a.put (some (D i)) v) w' := by
  obtain ⟨h1, h2, h3, h4, h5, h6, h7, h8⟩ := hG
  have hd : D i < 64 := by unfold D; split <;> omega
  have hn : ∀ s, s = 0 ∨ s = 1 ∨ s = 2 ∨ s = 7 ∨ s = 8 → s ≠ D i := by intro s hs; unfold D; split <;> omega
  refine ⟨⟨by rw [Ord.size_put]; exact h1, h2, ?_, ?_, ?_, ?_, ?_, h8.trans (hb.mono h8.size)⟩, ?_, ?_⟩
  · rw [Ord.eval_put_other _ _ _ _ (hn 0 (by omega))]; exact h3
  · rw [Ord.eval_put_other _ _ _ _ (hn 1 (by omega))]; exact h4
  · rw [Ord.eval_put_other _ _ _ _ (hn 2 (by omega))]; exact h5
  · rw [Ord.eval_put_other _ _ _ _ (hn 7 (by omega))]; exact h6
  · rw [Ord.eval_put_other _ _ _ _ (hn 8 (by omega))]; exact h7
  · unfold F
    rw [Ord.eval_put_same _ _ _ (by omega)]
    exact hE
  · intro j hj hF
    unfold F
    rw [Ord.eval_put_other _ _ _ _ (by unfold D; split <;> split <;> omega)]
    exact E_later d hb j hF

theorem walk (a0 : Option Addr) (len0 cap0 : Nat) (z0 : List Int) (a1 : Option Addr) (len1 cap1 : Nat) (z1 : List Int) (a2 : Option Addr) (len2 cap2 : Nat) (z2 : List Int) (w : World) (w0 : Crc.Row w a0 len0 z0) (s0 : len0 ≤ cap0 ∧ cap0 ≤ 140737488351232 ∧ (a0 = none → len0 = 0 ∧ cap0 = 0)) (w1 : Crc.Row w a1 len1 z1) (s1 : len1 ≤ cap1 ∧ cap1 ≤ 140737488351232 ∧ (a1 = none → len1 = 0 ∧ cap1 = 0)) (w2 : Crc.Row w a2 len2 z2) (s2 : len2 ≤ cap2 ∧ cap2 ≤ 140737488351232 ∧ (a2 = none → len2 = 0 ∧ cap2 = 0)) (ht : Crc.Tab w) :
    Calls Tryd.prog 7 #[.slice a0 len0 cap0, .slice a1 len1 cap1, .slice a2 len2 cap2] w fun e w' => e = .returned (.bool true) ∧ Below w.heap.size w w' := by
  obtain ⟨hc0, hx0, hn0⟩ := s0
  obtain ⟨hc1, hx1, hn1⟩ := s1
  obtain ⟨hc2, hx2, hn2⟩ := s2
  obtain ⟨m, hm1⟩ : ∃ m : Nat, (if len2 < len1 then (len2 : Int) else (len1 : Int)) = (m : Int) := ⟨if len2 < len1 then len2 else len1, by split <;> rfl⟩
  obtain ⟨n, hm2⟩ : ∃ n : Nat, (if m < len0 then (m : Int) else (len0 : Int)) = (n : Int) := ⟨if m < len0 then m else len0, by split <;> rfl⟩
  have hle : n ≤ len0 ∧ n ≤ len1 ∧ n ≤ len2 := by
    split at hm1 <;> split at hm2 <;> omega
  obtain ⟨hl0, hl1, hl2⟩ := hle
  obtain ⟨i0, hi, hz0, hz1, hz2⟩ := info_parts Crc.info5
  have N0 : Hid (a0 = none → len0 = 0 ∧ cap0 = 0) := hn0
  have N1 : Hid (a1 = none → len1 = 0 ∧ cap1 = 0) := hn1
  have N2 : Hid (a2 = none → len2 = 0 ∧ cap2 = 0) := hn2
  clear hn0 hn1 hn2
  go_enter Tryd.func7, Tryd.ntmps7
  go_wp2_with fail
  clear hm1 hm2
  go_loopw [8, 9] (fun v i wr => ∃ k : Nat, k ≤ n ∧ i = .int .i64 k ∧ wr.ownsRow w.heap.size 5 1 v k ((Crc.lay z0 z1 z2 k).map (Value.int .u8)) ∧ Below w.heap.size w wr)
    (fun _ i _ => n - (intOf i).toNat)
  case atStart => exact ⟨0, Nat.zero_le _, rfl, World.ownsRow_nil _ _ _ _, Below.refl _ _⟩
  case round =>
    obtain ⟨k, hk, rfl, hown, hbel⟩ := hrel
    rcases Nat.lt_or_ge k n with hlt | hge
    · obtain ⟨b0, o0, rfl, cc0⟩ := (w0.later hbel).2.2.2.resolve_left (by omega)
      obtain ⟨b1, o1, rfl, cc1⟩ := (w1.later hbel).2.2.2.resolve_left (by omega)
      obtain ⟨b2, o2, rfl, cc2⟩ := (w2.later hbel).2.2.2.resolve_left (by omega)
      have x0 := cc0 k (by omega)
      have x1 := cc1 k (by omega)
      have x2 := cc2 k (by omega)
      have l0 : b0 < w.heap.size := by
        obtain ⟨_, _, he, hc⟩ := w0.2.2.2.resolve_left (by omega)
        cases he; exact Crc.cell_lt (hc k (by omega))
      have l1 : b1 < w.heap.size := by
        obtain ⟨_, _, he, hc⟩ := w1.2.2.2.resolve_left (by omega)
        cases he; exact Crc.cell_lt (hc k (by omega))
      have l2 : b2 < w.heap.size := by
        obtain ⟨_, _, he, hc⟩ := w2.2.2.2.resolve_left (by omega)
        cases he; exact Crc.cell_lt (hc k (by omega))
      have hv := Crc.lay3_walk (Crc.byte_at z0 w0.2.1 k) (Crc.byte_at z1 w1.2.1 k) (Crc.byte_at z2 w2.2.1 k)
      have HN : Hid (∀ (g c : Nat) (wx : World), _) := fun (g c : Nat) (wx : World) => next (w := w) (k := k) (g := g) (c := c) (w1 := wx) (xs := z0) (ys := z1) (zs := z2)
      have hob : ∀ b, b < w.heap.size → some b ≠ u8.ownBlock := by
        intro b hb e
        rcases hown.2 with ⟨hv, _⟩ | ⟨g, cp, cur, hv, hg, _⟩
        · rw [hv] at e; cases e
        · rw [hv] at e
          simp only [Value.ownBlock, Option.some.injEq] at e
          omega
      have q0 : (0 : Int) ≤ (k : Int) := by omega
      have q1 : (k : Int) < (len0 : Int) := by omega
      have q2 : (k : Int) < (len1 : Int) := by omega
      have q3 : (k : Int) < (len2 : Int) := by omega
      have hbase := hbel.size
      clear cc0 cc1 cc2
      generalize z0.getD k 0 = y0 at *
      generalize z1.getD k 0 = y1 at *
      generalize z2.getD k 0 = y2 at *
      generalize Crc.lay3 y0 y1 y2 = yv at *
      go_wp2
      go_region_held3 (fun w' => w'.cell? ⟨b0, o0 + k, none⟩ = some (.int .u8 y0) ∧ w'.cell? ⟨b1, o1 + k, none⟩ = some (.int .u8 y1) ∧ w'.cell? ⟨b2, o2 + k, none⟩ = some (.int .u8 y2))
        (first
          | go_keep
          | (go_split_ands
             refine ⟨?_, ?_, ?_⟩
             · (rw [hgrow.cell_far _ (by simp; omega) (hob _ l0)]; assumption)
             · (rw [hgrow.cell_far _ (by simp; omega) (hob _ l1)]; assumption)
             · (rw [hgrow.cell_far _ (by simp; omega) (hob _ l2)]; assumption)))
        ((refine step_append_lies _ (by rfl) _ _ _ (by rfl) w.heap.size 5 i0 _ 1 1 Tryd.underlying22 hi hz0 hz1 hz2 rfl (by omega) u8 k _ (by rfl) ((hown.alloc _).drew)
            ⟨wr.heap.size, 0, none⟩ 1 1 [.int .u8 yv] (by rfl) (by rfl) (World.news_of_block (cs := #[.int .u8 yv]) (t := 5) (fr := (0, 0)) (heap_alloc_new wr _)) (by simp [Value.oneCell'])
            (by omega) (by unfold maxLen; omega) (by omega) (by simp; omega) (wr.heap.size + 1) (by simp) ?_; intro g cap w1' hown1 hgrow hat hlt1))
      go_wp2
      go_roundw
      case rel => exact ⟨k + 1, by omega, by go_num, HN.out g cap w1' hown1, ((hbel.alloc hbase _).drew).grown hgrow (by simp; omega) (fun q hq => Nat.le_of_not_lt (fun hq2 => hob q hq2 hq.symm))⟩
      case measure => simp [intOf]; omega
    · obtain rfl : k = n := by omega
      obtain ⟨aa, cA, rfl, hrow, hcA, hnA, _⟩ := Crc.row_own hown (Crc.lay_bytes w0.2.1 w1.2.1 w2.2.1 _) (by omega)
      clear hown
      go_wp2_with fail
      have hR0 := (w0.later hbel).upto k hl0
      have hR1 := (w1.later hbel).upto k hl1
      have hR2 := (w2.later hbel).upto k hl2
      have hTr := ht.later hbel ht.pos
      have hS := Crc.sum_lay z0 z1 z2 k (by rw [w0.1]; exact hl0) (by rw [w1.1]; exact hl1) (by rw [w2.1]; exact hl2)
      have u0 := Crc.sum_lt _ (hR0.2.1)
      have u1 := Crc.sum_lt _ (hR1.2.1)
      have u2 := Crc.sum_lt _ (hR2.2.1)
      refine Ord.wp_region_facts (by kernel_rfl) (G ⟨a0, a1, a2, aa, len0, len1, len2, cap0, cap1, cap2, cA, k, z0, z1, z2⟩ wr) (F ⟨a0, a1, a2, aa, len0, len1, len2, cap0, cap1, cap2, cA, k, z0, z1, z2⟩) (by kernel_rfl) ?_ ?_ ?_
      case refine_3 => exact ⟨rfl, rfl, rfl, rfl, rfl, rfl, rfl, (Below.refl _ _).drew⟩
      case refine_2 =>
        intro a w' hG hF
        obtain ⟨g1, g2, g3, g4, g5, g6, g7, g8⟩ := hG
        have h6 : a.eval (.tmp 6) = .bool true := hF 24 (by decide)
        have h6' : a.tmps[6]?.getD undef = .bool true := by simpa [Act.eval] using h6
        rename_i hKK
        refine hKK a w' ?_
        refine wp_ret ?_
        refine bodyPost_ret (v := .bool true) ?_ g2 ⟨rfl, hbel.trans (g8.mono hbel.size)⟩
        simp [results, Tryd.results7, go_sem, h6']
      case refine_1 =>
        intro i o a w' ho hG hdep
        have hG' := hG
        obtain ⟨g1, g2, g3, g4, g5, g6, g7, g8⟩ := hG
        match i, ho with
        | 0, ho =>
          cases ho
          exact Ord.wpOp_of rfl rfl (Ord.wp_value (v := a.eval (.tmp 8)) rfl (post hG' 0 (by decide) _ (Below.refl _ _) g7))
        | 1, ho =>
          cases ho
          have da : a.eval (.tmp 40) = .slice aa k cA := hdep ⟨0, .data⟩ (by simp) rfl
          refine Ord.wpOp_of rfl rfl (Ord.wp_value (v := .slice (some ⟨w'.heap.size, 0, none⟩) 1 1) (w' := w'.alloc (.cells #[.slice aa k cA] 22)) (lays _ _ _ _ da rfl w') (post hG' 1 (by decide) _ ((Below.refl _ _).alloc (Nat.le_refl _) _) ⟨w'.heap.size, rfl, Crc.one w' aa k cA w'.heap.size _ (hrow.later g8) rfl⟩))
        | 2, ho =>
          cases ho
          obtain ⟨g, da, hp⟩ : built w' (a.eval (.tmp 41)) (aa, k, cA, Crc.lay z0 z1 z2 k) := hdep ⟨1, .data⟩ (by simp) rfl
          refine Ord.wpOp_of rfl rfl (Ord.wp_enter (w' := w') (f := 9) (args := #[_]) (enters _ _ da rfl w') ?_)
          refine (Crc.crcsum _ 1 1 _ w' (hTr.later g8 hTr.pos) hp).mono ?_
          rintro e w'' ⟨rfl, rfl⟩
          rw [Crc.all_one]
          exact ⟨_, rfl, post hG' 2 (by decide) _ (Below.refl _ _) rfl⟩
        | 3, ho =>
          cases ho
          exact Ord.wpOp_of rfl rfl (Ord.wp_value (v := a.eval (.tmp 0)) rfl (post hG' 3 (by decide) _ (Below.refl _ _) g3))
        | 4, ho =>
          cases ho
          exact Ord.wpOp_of rfl rfl (Ord.wp_value (v := a.eval (.tmp 7)) rfl (post hG' 4 (by decide) _ (Below.refl _ _) g6))
        | 5, ho =>
          cases ho
          have da : a.eval (.tmp 43) = .slice a0 len0 cap0 := hdep ⟨3, .data⟩ (by simp) rfl
          have db : a.eval (.tmp 44) = .int .i64 (k : Int) := hdep ⟨4, .data⟩ (by simp) rfl
          exact Ord.wpOp_of rfl rfl (Ord.wp_value (v := .slice a0 k cap0) (w' := w') (slices _ _ a0 len0 cap0 k hl0 hc0 N0.out rfl da db w') (post hG' 5 (by decide) _ (Below.refl _ _) rfl))
        | 6, ho =>
          cases ho
          have da : a.eval (.tmp 45) = .slice a0 k cap0 := hdep ⟨5, .data⟩ (by simp) rfl
          refine Ord.wpOp_of rfl rfl (Ord.wp_value (v := .slice (some ⟨w'.heap.size, 0, none⟩) 1 1) (w' := w'.alloc (.cells #[.slice a0 k cap0] 22)) (lays _ _ _ _ da rfl w') (post hG' 6 (by decide) _ ((Below.refl _ _).alloc (Nat.le_refl _) _) ⟨w'.heap.size, rfl, Crc.one w' a0 k cap0 w'.heap.size _ (hR0.later g8) rfl⟩))
        | 7, ho =>
          cases ho
          obtain ⟨g, da, hp⟩ : built w' (a.eval (.tmp 46)) (a0, k, cap0, z0.take k) := hdep ⟨6, .data⟩ (by simp) rfl
          refine Ord.wpOp_of rfl rfl (Ord.wp_enter (w' := w') (f := 9) (args := #[_]) (enters _ _ da rfl w') ?_)
          refine (Crc.crcsum _ 1 1 _ w' (hTr.later g8 hTr.pos) hp).mono ?_
          rintro e w'' ⟨rfl, rfl⟩
          rw [Crc.all_one]
          exact ⟨_, rfl, post hG' 7 (by decide) _ (Below.refl _ _) rfl⟩
        | 8, ho =>
          cases ho
          exact Ord.wpOp_of rfl rfl (Ord.wp_value (v := a.eval (.tmp 1)) rfl (post hG' 8 (by decide) _ (Below.refl _ _) g4))
        | 9, ho =>
          cases ho
          exact Ord.wpOp_of rfl rfl (Ord.wp_value (v := a.eval (.tmp 7)) rfl (post hG' 9 (by decide) _ (Below.refl _ _) g6))
        | 10, ho =>
          cases ho
          have da : a.eval (.tmp 48) = .slice a1 len1 cap1 := hdep ⟨8, .data⟩ (by simp) rfl
          have db : a.eval (.tmp 49) = .int .i64 (k : Int) := hdep ⟨9, .data⟩ (by simp) rfl
          exact Ord.wpOp_of rfl rfl (Ord.wp_value (v := .slice a1 k cap1) (w' := w') (slices _ _ a1 len1 cap1 k hl1 hc1 N1.out rfl da db w') (post hG' 10 (by decide) _ (Below.refl _ _) rfl))
        | 11, ho =>
          cases ho
          have da : a.eval (.tmp 50) = .slice a1 k cap1 := hdep ⟨10, .data⟩ (by simp) rfl
          refine Ord.wpOp_of rfl rfl (Ord.wp_value (v := .slice (some ⟨w'.heap.size, 0, none⟩) 1 1) (w' := w'.alloc (.cells #[.slice a1 k cap1] 22)) (lays _ _ _ _ da rfl w') (post hG' 11 (by decide) _ ((Below.refl _ _).alloc (Nat.le_refl _) _) ⟨w'.heap.size, rfl, Crc.one w' a1 k cap1 w'.heap.size _ (hR1.later g8) rfl⟩))
        | 12, ho =>
          cases ho
          obtain ⟨g, da, hp⟩ : built w' (a.eval (.tmp 51)) (a1, k, cap1, z1.take k) := hdep ⟨11, .data⟩ (by simp) rfl
          refine Ord.wpOp_of rfl rfl (Ord.wp_enter (w' := w') (f := 9) (args := #[_]) (enters _ _ da rfl w') ?_)
          refine (Crc.crcsum _ 1 1 _ w' (hTr.later g8 hTr.pos) hp).mono ?_
          rintro e w'' ⟨rfl, rfl⟩
          rw [Crc.all_one]
          exact ⟨_, rfl, post hG' 12 (by decide) _ (Below.refl _ _) rfl⟩
        | 13, ho =>
          cases ho
          have da : a.eval (.tmp 47) = .int .u32 ((Crc.sum (z0.take k) : Nat) : Int) := hdep ⟨7, .data⟩ (by simp) rfl
          have db : a.eval (.tmp 52) = .int .u32 ((Crc.sum (z1.take k) : Nat) : Int) := hdep ⟨12, .data⟩ (by simp) rfl
          exact Ord.wpOp_of rfl rfl (Ord.wp_value (w' := w') (xors _ _ rfl da db w') (post hG' 13 (by decide) _ (Below.refl _ _) (by rw [Crc.xor_u32 _ _ u0 u1]; rfl)))
        | 14, ho =>
          cases ho
          exact Ord.wpOp_of rfl rfl (Ord.wp_value (v := a.eval (.tmp 2)) rfl (post hG' 14 (by decide) _ (Below.refl _ _) g5))
        | 15, ho =>
          cases ho
          exact Ord.wpOp_of rfl rfl (Ord.wp_value (v := a.eval (.tmp 7)) rfl (post hG' 15 (by decide) _ (Below.refl _ _) g6))
        | 16, ho =>
          cases ho
          have da : a.eval (.tmp 54) = .slice a2 len2 cap2 := hdep ⟨14, .data⟩ (by simp) rfl
          have db : a.eval (.tmp 55) = .int .i64 (k : Int) := hdep ⟨15, .data⟩ (by simp) rfl
          exact Ord.wpOp_of rfl rfl (Ord.wp_value (v := .slice a2 k cap2) (w' := w') (slices _ _ a2 len2 cap2 k hl2 hc2 N2.out rfl da db w') (post hG' 16 (by decide) _ (Below.refl _ _) rfl))
        | 17, ho =>
          cases ho
          have da : a.eval (.tmp 56) = .slice a2 k cap2 := hdep ⟨16, .data⟩ (by simp) rfl
          refine Ord.wpOp_of rfl rfl (Ord.wp_value (v := .slice (some ⟨w'.heap.size, 0, none⟩) 1 1) (w' := w'.alloc (.cells #[.slice a2 k cap2] 22)) (lays _ _ _ _ da rfl w') (post hG' 17 (by decide) _ ((Below.refl _ _).alloc (Nat.le_refl _) _) ⟨w'.heap.size, rfl, Crc.one w' a2 k cap2 w'.heap.size _ (hR2.later g8) rfl⟩))
        | 18, ho =>
          cases ho
          obtain ⟨g, da, hp⟩ : built w' (a.eval (.tmp 57)) (a2, k, cap2, z2.take k) := hdep ⟨17, .data⟩ (by simp) rfl
          refine Ord.wpOp_of rfl rfl (Ord.wp_enter (w' := w') (f := 9) (args := #[_]) (enters _ _ da rfl w') ?_)
          refine (Crc.crcsum _ 1 1 _ w' (hTr.later g8 hTr.pos) hp).mono ?_
          rintro e w'' ⟨rfl, rfl⟩
          rw [Crc.all_one]
          exact ⟨_, rfl, post hG' 18 (by decide) _ (Below.refl _ _) rfl⟩
        | 19, ho =>
          cases ho
          have da : a.eval (.tmp 53) = .int .u32 ((Crc.sum (z0.take k) ^^^ Crc.sum (z1.take k) : Nat) : Int) := hdep ⟨13, .data⟩ (by simp) rfl
          have db : a.eval (.tmp 58) = .int .u32 ((Crc.sum (z2.take k) : Nat) : Int) := hdep ⟨18, .data⟩ (by simp) rfl
          exact Ord.wpOp_of rfl rfl (Ord.wp_value (w' := w') (xors _ _ rfl da db w') (post hG' 19 (by decide) _ (Below.refl _ _) (by rw [Crc.xor_u32 _ _ (Nat.xor_lt_two_pow (n := 32) u0 u1) u2, ← hS]; rfl)))
        | 20, ho =>
          cases ho
          have da : a.eval (.tmp 42) = .int .u32 ((Crc.sum (Crc.lay z0 z1 z2 k) : Nat) : Int) := hdep ⟨2, .data⟩ (by simp) rfl
          have db : a.eval (.tmp 59) = .int .u32 ((Crc.sum (Crc.lay z0 z1 z2 k) : Nat) : Int) := hdep ⟨19, .data⟩ (by simp) rfl
          exact Ord.wpOp_of rfl rfl (Ord.wp_value (v := .bool true) (w' := w') (eqls _ _ rfl da db w') (post hG' 20 (by decide) _ (Below.refl _ _) rfl))
        | 21, ho =>
          cases ho
          have da : a.eval (.tmp 60) = .bool true := hdep ⟨20, .data⟩ (by simp) rfl
          exact Ord.wpOp_of rfl rfl (Ord.wp_value (v := a.eval (.tmp 60)) rfl (post hG' 21 (by decide) _ (Below.refl _ _) da))
        | 22, ho =>
          cases ho
          have da : a.eval (.tmp 61) = .bool true := hdep ⟨21, .guard⟩ (by simp) rfl
          refine Ord.wpOp_of rfl (wanted22 da g1 rfl rfl) (Ord.wp_enter (w' := w') (f := 13) (args := #[]) (enters0 rfl w') ?_)
          refine (Crc.awake w' (hTr.later g8 hTr.pos)).mono ?_
          rintro e w'' ⟨rfl, hb⟩
          exact ⟨_, rfl, post hG' 22 (by decide) _ hb rfl⟩
        | 23, ho =>
          cases ho
          have da : a.eval (.tmp 61) = .bool true := hdep ⟨21, .data⟩ (by simp) rfl
          have db : a.eval (.tmp 62) = .bool true := hdep ⟨22, .data⟩ (by simp) rfl
          exact Ord.wpOp_of rfl rfl (Ord.wp_value (v := .bool true) (w' := w') (picks _ _ _ rfl da db w') (post hG' 23 (by decide) _ (Below.refl _ _) rfl))
        | 24, ho =>
          cases ho
          have da : a.eval (.tmp 63) = .bool true := hdep ⟨23, .data⟩ (by simp) rfl
          exact Ord.wpOp_of rfl rfl (Ord.wp_value (v := a.eval (.tmp 63)) rfl (post hG' 24 (by decide) _ (Below.refl _ _) da))
        | _ + 25, ho => simp at ho

theorem contract (H : Type) (enc : TypeId × Value → H) (W : World) (base : Nat) (args : Array Value) (ds gs : List (DataW H)) (before : List MemPlace)
    (hval : ∀ (j : Nat) t v, Tryd.f7.params[j]? = some t → args[j]? = some v → Value.okWide Tryd.prog W .any base t v)
    (hW : DataW.Whole enc Tryd.prog Tryd.f7.params.toList Rows.crcLinearSpec.vars false W args.toList ds gs before)
    (hsz0 : (DataW.weightsEach Tryd.prog (Tryd.f7.params.toList ++ Rows.crcLinearSpec.plain.varTypes Tryd.prog) (ds ++ gs)).all (· ≤ reachBytes) = true)
    (hL : laidMetH Tryd.prog Rows.crcLinearRow.laid W) :
    Calls Tryd.prog 7 args W fun e W' => ∃ v, e = .returned v ∧ Rows.crcLinearSpec.post enc Tryd.prog Tryd.f7 false true false false W args v W' := by
  have hW' := hW
  obtain ⟨p, q, hA0, hV, rfl, hfz, hnd⟩ := hW
  have hA : DataW.TrodAll enc Tryd.prog W 0 (fun _ => true) true Tryd.f7.params.toList args.toList ds p := hA0
  have hsz := hsz0
  rw [Tryd.params7] at hA hval hsz
  obtain ⟨v0, vs0, d0, ds0, p0, q0, hargs, rfl, rfl, h0, r0⟩ := trodAll_cons hA
  obtain ⟨v1, vs1, d1, ds1, p1, q1, rfl, rfl, rfl, h1, r1⟩ := trodAll_cons r0
  obtain ⟨v2, vs2, d2, ds2, p2, q2, rfl, rfl, rfl, h2, r2⟩ := trodAll_cons r1
  obtain ⟨rfl, rfl, rfl⟩ := trodAll_nil r2
  obtain rfl : args = #[v0, v1, v2] := by cases args; simp_all
  obtain ⟨rfl, rfl⟩ := trodVars_none hV
  obtain ⟨a0, len0, cap0, rfl⟩ := okWide_slice Tryd.underlying22 (hval 0 22 v0 rfl rfl)
  have k0 := h0
  have lt0 : ∀ x ∈ p0, x.block < W.heap.size := by obtain ⟨m, hm⟩ := k0; exact DataW.trod_lt m _ _ _ hm
  obtain ⟨z0, w0, s0⟩ : ∃ zs, Crc.Row W a0 len0 zs ∧ len0 ≤ cap0 ∧ cap0 ≤ 140737488351232 ∧ (a0 = none → len0 = 0 ∧ cap0 = 0) := by
    obtain ⟨fuel, hf⟩ := h0
    refine Crc.row_of hf fun elems spare hd => ?_
    simp only at hd
    subst hd
    have sz := sized_slice hsz (j := 0) (t := 22) (elems := elems) (spare := spare) rfl rfl Tryd.underlying22
    rw [show Tryd.prog.bytesOf 5 = 1 by kernel_rfl, Nat.mul_one] at sz
    exact sz
  obtain ⟨a1, len1, cap1, rfl⟩ := okWide_slice Tryd.underlying22 (hval 1 22 v1 rfl rfl)
  have k1 := h1
  have lt1 : ∀ x ∈ p1, x.block < W.heap.size := by obtain ⟨m, hm⟩ := k1; exact DataW.trod_lt m _ _ _ hm
  obtain ⟨z1, w1, s1⟩ : ∃ zs, Crc.Row W a1 len1 zs ∧ len1 ≤ cap1 ∧ cap1 ≤ 140737488351232 ∧ (a1 = none → len1 = 0 ∧ cap1 = 0) := by
    obtain ⟨fuel, hf⟩ := h1
    refine Crc.row_of hf fun elems spare hd => ?_
    simp only at hd
    subst hd
    have sz := sized_slice hsz (j := 1) (t := 22) (elems := elems) (spare := spare) rfl rfl Tryd.underlying22
    rw [show Tryd.prog.bytesOf 5 = 1 by kernel_rfl, Nat.mul_one] at sz
    exact sz
  obtain ⟨a2, len2, cap2, rfl⟩ := okWide_slice Tryd.underlying22 (hval 2 22 v2 rfl rfl)
  have k2 := h2
  have lt2 : ∀ x ∈ p2, x.block < W.heap.size := by obtain ⟨m, hm⟩ := k2; exact DataW.trod_lt m _ _ _ hm
  obtain ⟨z2, w2, s2⟩ : ∃ zs, Crc.Row W a2 len2 zs ∧ len2 ≤ cap2 ∧ cap2 ≤ 140737488351232 ∧ (a2 = none → len2 = 0 ∧ cap2 = 0) := by
    obtain ⟨fuel, hf⟩ := h2
    refine Crc.row_of hf fun elems spare hd => ?_
    simp only at hd
    subst hd
    have sz := sized_slice hsz (j := 2) (t := 22) (elems := elems) (spare := spare) rfl rfl Tryd.underlying22
    rw [show Tryd.prog.bytesOf 5 = 1 by kernel_rfl, Nat.mul_one] at sz
    exact sz
  clear hA0 hsz0 hsz
  refine (walk a0 len0 cap0 z0 a1 len1 cap1 z1 a2 len2 cap2 z2 W w0 s0 w1 s1 w2 s2 (table hL)).mono fun e W' ⟨he, bel⟩ => ?_
  subst he
  exact ⟨_, rfl, _, _, _, [], _, [], hW', trodAll_mk1 (shut_bool Tryd.underlying4 _), (trodAll_cons_mk (Below.trod laidOut (by kernel_rfl) (of_decide_eq_true (by kernel_rfl)) k0 bel lt0) (trodAll_cons_mk (Below.trod laidOut (by kernel_rfl) (of_decide_eq_true (by kernel_rfl)) k1 bel lt1) (trodAll_cons_mk (Below.trod laidOut (by kernel_rfl) (of_decide_eq_true (by kernel_rfl)) k2 bel lt2) trodAll_mk0))), rfl, bel.frame _, fun h => by cases h⟩

noncomputable def laidWorld (os : Os) : World :=
  { World.holding Tryd.prog os ⟨#[], #[], []⟩ with heap := (World.holding Tryd.prog os ⟨#[], #[], []⟩).heap.modify 0 fun
      | .cells _ t frozen => .cells #[.int .u32 0, .int .u32 274646895, .int .u32 549293790, .int .u32 820201905, .int .u32 1098587580, .int .u32 1361435347, .int .u32 1640403810, .int .u32 1905808397, .int .u32 2197175160, .int .u32 2460548119, .int .u32 2722870694, .int .u32 2987750089, .int .u32 3280807620, .int .u32 3553878443, .int .u32 3811616794, .int .u32 4084100981] t frozen
      | o => o }
theorem laid_met (os : Os) : laidMet Tryd.prog Rows.crcLinearRow.laid ((laidWorld os).forCall (fun _ _ => 0) ⟨#[], #[.slice none 0 0, .slice none 0 0, .slice none 0 0], []⟩).memory :=
  laidMet_of_run' 8 (by kernel_rfl) (by kernel_rfl)
theorem reads (os : Os) {H : Type} (enc : TypeId × Value → H) : ∃ places, DataW.whole enc Tryd.prog ((laidWorld os).forCall (fun _ _ => 0) ⟨#[], #[.slice none 0 0, .slice none 0 0, .slice none 0 0], []⟩).memory Tryd.f7.params.toList Rows.crcLinearSpec.vars false #[Value.slice none 0 0, Value.slice none 0 0, Value.slice none 0 0].toList 8 = some ([.nil, .nil, .nil], [], places) :=
  ⟨[], by kernel_rfl⟩

set_option maxRecDepth 100000 in
theorem lifted (os : Os) (started : os.Started) (H : Type) (enc : TypeId × Value → H) (F : Stop.Interp) :
    ReturnsInHanded {} Tryd.checked os 7 .any ((OpenSpec.ofChange Rows.crcLinearSpec).preRow enc Tryd.prog Tryd.f7 Rows.crcLinearRow.domain false Rows.crcLinearRow.laid) (((OpenSpec.ofChange Rows.crcLinearSpec).at F).post enc Tryd.prog Tryd.f7 false true false false) := by
  obtain ⟨places, hx⟩ := reads os enc
  refine returnsInHanded_of_row (C := Tryd.checked) (s := OpenSpec.ofChange Rows.crcLinearSpec) own started (by kernel_rfl) Tryd.func7
    (witness_row_at (enc := enc) (C := Tryd.checked) false (laidWorld os) #[.slice none 0 0, .slice none 0 0, .slice none 0 0] rfl (by kernel_rfl) (by kernel_rfl) (by kernel_rfl)
      (OpenSpec.preRow_of_cond 8 hx (by kernel_rfl) (fun k hk => by cases hk) (by kernel_rfl) (laid_met os))) ?_
  intro W base args ds gs before hval hW _ hcond hsz hL _ _
  exact contract H enc W base args ds gs before hval hW hsz hL

theorem said : Rows.CrcLinearSaid :=
  OpenClaim.holds_of_cond 7 Tryd.f7 rfl rfl rfl rfl rfl rfl rfl ⟨rfl, rfl, rfl, rfl, rfl⟩ rfl rfl rfl rfl rfl (by kernel_rfl) Tryd.func7 (by kernel_rfl)
    (of_decide_eq_true (by kernel_rfl)) (by unfold Func.isWrapper; first | (rw [if_pos (by decide +kernel)]; kernel_rfl) | (rw [if_neg (by decide +kernel)]; exact ⟨rfl, rfl⟩))
    (fun os started H enc _ F => by rw [OpenClaim.pre_eq_preRow]; exact lifted os started H enc F)

theorem plain (f : FuncId) (fn : Func) (hf : Tryd.pinned.checked.prog.funcNamed "ropewalk/ropewalklaw02.CrcLinear" = some f) (hfn : Tryd.pinned.checked.prog.funcs[f]? = some fn) :
    false = Tryd.pinned.checked.prog.looks [] ∧ ∀ (j : Nat) t, fn.params[j]? = some t → Tryd.pinned.checked.prog.wantsStandIn t = false := by
  obtain rfl : f = 7 := Option.some.inj ((show Tryd.prog.funcNamed "ropewalk/ropewalklaw02.CrcLinear" = some 7 by kernel_rfl).symm.trans hf) |>.symm
  obtain rfl : fn = Tryd.f7 := (Option.some.inj (Tryd.func7.symm.trans hfn)).symm
  refine ⟨by kernel_rfl, fun j t ht => ?_⟩
  rw [Tryd.params7] at ht
  have hm : t ∈ [22, 22, 22] := by simpa using Array.mem_of_getElem? ht
  have hall : ∀ t ∈ [22, 22, 22], Tryd.prog.wantsStandIn t = false := by
    intro t ht
    simp only [List.mem_cons, List.not_mem_nil, or_false] at ht
    rcases ht with rfl | rfl | rfl <;> kernel_rfl
  exact hall t hm

/-- THE CARD -/
theorem proved : Rows.CrcLinearCardSaid :=
  Claim7.holds_tied_plain_at .later [] _ _ _ _ said (fun _ h => by cases h) (by kernel_rfl) (fun _ h => by cases h) crcLinear_row_tie rfl ⟨rfl, rfl⟩ (by kernel_rfl) rfl plain (by kernel_rfl)
#print axioms proved
end Go.Proofs.YtfibmpconfoieaaDoor.crcLinear
