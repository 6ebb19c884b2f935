/-
  Chunks in memory.
  Conditions: the numbers lie within their kinds, the cells hold them.
-/
import Derived.Test.YtifdkpifambhaaaParG
import Derived.Test.YtifdkpifambhaaaOrders3
import Derived.Deep.Cut
import Derived.BigQuiet
namespace Go.Proofs.Ytifdkpifambhaaa.Chu
open Go.ChangeShapes Go.WideShapes Go.ChangeAt Go.RowKit
open Par (hidden Bytes Row Prm Prms cell_lt)
set_option linter.unusedVariables false

/-- a chunk: its numbers; of each list its address, length, capacity and what it holds -/
structure Ck where
  kind : Int
  flags : Int
  tsn : Int
  stream : Int
  ssn : Int
  proto : Int
  tag : Int
  win : Int
  out : Int
  inn : Int
  ga : Option Addr
  gl : Nat
  gc : Nat
  gs : List (Int × Int)
  na : Option Addr
  nl : Nat
  nc : Nat
  ns : List (Int × Int)
  da : Option Addr
  dl : Nat
  dc : Nat
  ds : List Int
  ba : Option Addr
  bl : Nat
  bc : Nat
  bs : List Int
  pa : Option Addr
  pl : Nat
  pc : Nat
  ps : List Prm
/-- its cells -/
def cc (c : Ck) : Array Value := #[.int .u8 c.kind, .int .u8 c.flags, .int .u32 c.tsn, .int .u16 c.stream, .int .u16 c.ssn, .int .u32 c.proto, .int .u32 c.tag, .int .u32 c.win, .int .u16 c.out, .int .u16 c.inn, .slice c.ga c.gl c.gc, .slice c.na c.nl c.nc, .slice c.da c.dl c.dc, .slice c.ba c.bl c.bc, .slice c.pa c.pl c.pc]
/-- it as a value -/
def cv (c : Ck) : Value := .agg (cc c)
/-- what a chunk says -/
structure Ch where
  kind : Int
  flags : Int
  tsn : Int
  stream : Int
  ssn : Int
  proto : Int
  tag : Int
  win : Int
  out : Int
  inn : Int
  gs : List (Int × Int)
  ns : List (Int × Int)
  ds : List Int
  bs : List Int
  ps : List (Int × List Int)
def val (c : Ck) : Ch := ⟨c.kind, c.flags, c.tsn, c.stream, c.ssn, c.proto, c.tag, c.win, c.out, c.inn, c.gs, c.ns, c.ds, c.bs, c.ps.map Par.val⟩
/-- cells that lie one behind the other, in a block from base on -/
def Lies (base : Nat) (w : World) (a : Option Addr) (xs : List Value) : Prop := xs = [] ∨ ∃ b off, a = some ⟨b, off, none⟩ ∧ base ≤ b ∧ ∀ j u, xs[j]? = some u → w.cell? ⟨b, off + j, none⟩ = some u
theorem Lies.later {base : Nat} {w w' : World} {a : Option Addr} {xs : List Value} (h : Lies base w a xs) (hb : Below w.heap.size w w') : Lies base w' a xs := by
  refine h.imp id ?_
  rintro ⟨b, off, rfl, hbb, hc⟩
  exact ⟨b, off, rfl, hbb, fun j u hj => (hb.cell (cell_lt (hc j u hj))).trans (hc j u hj)⟩
theorem Lies.set {base : Nat} {w : World} {a : Option Addr} {xs : List Value} (h : Lies base w a xs) {x : Addr} (hx : x.block < base) (v : Value) : Lies base (w.setCell x v) a xs := by
  refine h.imp id ?_
  rintro ⟨b, off, rfl, hbb, hc⟩
  exact ⟨b, off, rfl, hbb, fun j u hj => (World.cell?_setCell_other _ _ _ _ (fun e => by subst e; exact absurd hx (Nat.not_lt.2 hbb))).trans (hc j u hj)⟩
theorem Lies.mono {base base' : Nat} {w : World} {a : Option Addr} {xs : List Value} (h : Lies base w a xs) (hb : base' ≤ base) : Lies base' w a xs := by
  refine h.imp id ?_
  rintro ⟨b, off, rfl, hbb, hc⟩
  exact ⟨b, off, rfl, Nat.le_trans hb hbb, hc⟩
/-- gaps as cells, numbers as cells -/
def gcs (gs : List (Int × Int)) : List Value := gs.flatMap fun g => [.int .u16 g.1, .int .u16 g.2]
def dcs (ds : List Int) : List Value := ds.map (.int .u32)
/-- a list of gaps, of numbers -/
def Gaps (base : Nat) (w : World) (a : Option Addr) (n : Nat) (gs : List (Int × Int)) : Prop :=
  gs.length = n ∧ n ≤ 140737488355328 ∧ (∀ g ∈ gs, (0 ≤ g.1 ∧ g.1 < 65536) ∧ (0 ≤ g.2 ∧ g.2 < 65536)) ∧ Lies base w a (gcs gs)
def Fours (base : Nat) (w : World) (a : Option Addr) (n : Nat) (ds : List Int) : Prop :=
  ds.length = n ∧ n ≤ 140737488355328 ∧ (∀ d ∈ ds, 0 ≤ d ∧ d < 4294967296) ∧ Lies base w a (dcs ds)
theorem Gaps.later {base : Nat} {w w' : World} {a : Option Addr} {n : Nat} {l : List (Int × Int)} (h : Gaps base w a n l) (hb : Below w.heap.size w w') : Gaps base w' a n l := ⟨h.1, h.2.1, h.2.2.1, h.2.2.2.later hb⟩
theorem Gaps.set {base : Nat} {w : World} {a : Option Addr} {n : Nat} {l : List (Int × Int)} (h : Gaps base w a n l) {x : Addr} (hx : x.block < base) (v : Value) : Gaps base (w.setCell x v) a n l := ⟨h.1, h.2.1, h.2.2.1, h.2.2.2.set hx v⟩
theorem Gaps.mono {base base' : Nat} {w : World} {a : Option Addr} {n : Nat} {l : List (Int × Int)} (h : Gaps base w a n l) (hb : base' ≤ base) : Gaps base' w a n l := ⟨h.1, h.2.1, h.2.2.1, h.2.2.2.mono hb⟩
theorem Gaps.nil (base : Nat) (w : World) (a : Option Addr) : Gaps base w a 0 [] := ⟨rfl, by decide, (fun g hg => by cases hg), .inl rfl⟩
theorem Fours.later {base : Nat} {w w' : World} {a : Option Addr} {n : Nat} {l : List Int} (h : Fours base w a n l) (hb : Below w.heap.size w w') : Fours base w' a n l := ⟨h.1, h.2.1, h.2.2.1, h.2.2.2.later hb⟩
theorem Fours.set {base : Nat} {w : World} {a : Option Addr} {n : Nat} {l : List Int} (h : Fours base w a n l) {x : Addr} (hx : x.block < base) (v : Value) : Fours base (w.setCell x v) a n l := ⟨h.1, h.2.1, h.2.2.1, h.2.2.2.set hx v⟩
theorem Fours.mono {base base' : Nat} {w : World} {a : Option Addr} {n : Nat} {l : List Int} (h : Fours base w a n l) (hb : base' ≤ base) : Fours base' w a n l := ⟨h.1, h.2.1, h.2.2.1, h.2.2.2.mono hb⟩
theorem Fours.nil (base : Nat) (w : World) (a : Option Addr) : Fours base w a 0 [] := ⟨rfl, by decide, (fun g hg => by cases hg), .inl rfl⟩
theorem gcs_get (gs : List (Int × Int)) (k : Nat) (g : Int × Int) (h : gs[k]? = some g) : (gcs gs)[k * 2]? = some (.int .u16 g.1) ∧ (gcs gs)[k * 2 + 1]? = some (.int .u16 g.2) := by
  induction gs generalizing k with
  | nil => simp at h
  | cons x gs ih =>
    cases k with
    | zero =>
      simp only [List.getElem?_cons_zero, Option.some.injEq] at h
      subst h
      exact ⟨rfl, rfl⟩
    | succ k =>
      have := ih k (by simpa using h)
      have e : gcs (x :: gs) = .int .u16 x.1 :: .int .u16 x.2 :: gcs gs := rfl
      rw [e, show (k + 1) * 2 = k * 2 + 1 + 1 by omega]
      simpa using this
theorem gcs_len (gs : List (Int × Int)) : (gcs gs).length = gs.length * 2 := by
  induction gs with
  | nil => rfl
  | cons x gs ih =>
    have e : gcs (x :: gs) = .int .u16 x.1 :: .int .u16 x.2 :: gcs gs := rfl
    rw [e, List.length_cons, List.length_cons, List.length_cons, ih]
    omega
theorem Gaps.get {base : Nat} {w : World} {a : Option Addr} {n k : Nat} {gs : List (Int × Int)} (h : Gaps base w a n gs) (hk : k < n) :
    ∃ b off s e, a = some ⟨b, off, none⟩ ∧ gs[k]? = some (s, e) ∧ w.cell? ⟨b, off + k * 2, none⟩ = some (.int .u16 s) ∧ w.cell? ⟨b, off + k * 2 + 1, none⟩ = some (.int .u16 e) ∧ (0 ≤ s ∧ s < 65536) ∧ (0 ≤ e ∧ e < 65536) := by
  obtain ⟨h1, h2, h3, h4⟩ := h
  have hkl : k < gs.length := by omega
  rcases h4 with h0 | ⟨b, off, rfl, hbb, hc⟩
  · have := gcs_len gs
    rw [h0] at this
    simp at this
    omega
  · obtain ⟨g1, g2⟩ := gcs_get gs k gs[k] (List.getElem?_eq_getElem hkl)
    have hb := h3 gs[k] (List.getElem_mem hkl)
    exact ⟨b, off, gs[k].1, gs[k].2, rfl, List.getElem?_eq_getElem hkl, hc _ _ g1, by rw [Nat.add_assoc]; exact hc _ _ g2, hb.1, hb.2⟩
theorem Fours.get {base : Nat} {w : World} {a : Option Addr} {n k : Nat} {ds : List Int} (h : Fours base w a n ds) (hk : k < n) :
    ∃ b off d, a = some ⟨b, off, none⟩ ∧ ds[k]? = some d ∧ w.cell? ⟨b, off + k, none⟩ = some (.int .u32 d) ∧ (0 ≤ d ∧ d < 4294967296) := by
  obtain ⟨h1, h2, h3, h4⟩ := h
  have hkl : k < ds.length := by omega
  rcases h4 with h0 | ⟨b, off, rfl, hbb, hc⟩
  · have := congrArg List.length h0
    simp [dcs] at this
    subst this
    simp at hkl
  · exact ⟨b, off, ds[k], rfl, List.getElem?_eq_getElem hkl, hc k _ (by simp [dcs, List.getElem?_eq_getElem hkl]), h3 _ (List.getElem_mem hkl)⟩
/-- its numbers lie within their kinds -/
def Nums (c : Ck) : Prop := (0 ≤ c.kind ∧ c.kind < 256) ∧ (0 ≤ c.flags ∧ c.flags < 256) ∧ (0 ≤ c.tsn ∧ c.tsn < 4294967296) ∧ (0 ≤ c.stream ∧ c.stream < 65536) ∧ (0 ≤ c.ssn ∧ c.ssn < 65536) ∧ (0 ≤ c.proto ∧ c.proto < 4294967296) ∧ (0 ≤ c.tag ∧ c.tag < 4294967296) ∧ (0 ≤ c.win ∧ c.win < 4294967296) ∧ (0 ≤ c.out ∧ c.out < 65536) ∧ (0 ≤ c.inn ∧ c.inn < 65536)
/-- its lists can be read -/
def Lsts (base : Nat) (w : World) (c : Ck) : Prop :=
  Gaps base w c.ga c.gl c.gs ∧ Gaps base w c.na c.nl c.ns ∧ Fours base w c.da c.dl c.ds ∧ Row base w c.ba c.bl c.bs ∧ (c.ba = none → c.bl = 0 ∧ c.bc = 0) ∧ Prms base w c.pa c.pl c.ps
/-- a chunk can be read -/
def Chk (base : Nat) (w : World) (c : Ck) : Prop := Nums c ∧ Lsts base w c
theorem Lsts.later {base : Nat} {w w' : World} {c : Ck} (h : Lsts base w c) (hb : Below w.heap.size w w') : Lsts base w' c := ⟨h.1.later hb, h.2.1.later hb, h.2.2.1.later hb, h.2.2.2.1.later hb, h.2.2.2.2.1, h.2.2.2.2.2.later hb⟩
theorem Lsts.set {base : Nat} {w : World} {c : Ck} (h : Lsts base w c) {x : Addr} (hx : x.block < base) (v : Value) : Lsts base (w.setCell x v) c := ⟨h.1.set hx v, h.2.1.set hx v, h.2.2.1.set hx v, h.2.2.2.1.set hx v, h.2.2.2.2.1, h.2.2.2.2.2.set hx v⟩
theorem Chk.later {base : Nat} {w w' : World} {c : Ck} (h : Chk base w c) (hb : Below w.heap.size w w') : Chk base w' c := ⟨h.1, h.2.later hb⟩
theorem Chk.set {base : Nat} {w : World} {c : Ck} (h : Chk base w c) {x : Addr} (hx : x.block < base) (v : Value) : Chk base (w.setCell x v) c := ⟨h.1, h.2.set hx v⟩
/-- block B holds it -/
def Bx (w : World) (B : Nat) (c : Ck) : Prop := w.heap[B]? = some (.cells (cc c) 37 (0, 0))
theorem size_cc (c : Ck) : (cc c).size = 15 := rfl
theorem infoC : (Try.prog.info? 37).map (·.size) = some 15 := by kernel_rfl
theorem Bx.load {w : World} {B : Nat} {c : Ck} (h : Bx w B c) : (loadVar 37 ⟨B, 0, none⟩).run Try.prog w = .ok (cv c) w :=
  run_loadVar_row w B 37 37 (cc c) (0, 0) _ h Try.underlying37 rfl infoC
/-- a load, a new variable, a store of a whole chunk -/
def ld (v : Value) : Sem Value := Instr.loadAt 37 v
def bxd (v : Value) : Sem Value := Instr.box 37 v
def sto (p v : Value) : Sem Unit := Instr.storeAt 37 p v
theorem execOp_ld (ρ : Operand → Value) (dst : Option Tmp) (x : Operand) (ty : TypeId) (pos : String) (after : Array Edge) (guard : Option (Nat × Bool)) :
    execOp ρ { dst := dst, op := .load 37 x, type := ty, pos := pos, after := after, guard := guard } = (do pure (.value (← ld (ρ x)))) := rfl
theorem execOp_bx (ρ : Operand → Value) (dst : Option Tmp) (x : Operand) (ty : TypeId) (pos : String) (after : Array Edge) (guard : Option (Nat × Bool)) :
    execOp ρ { dst := dst, op := .box 37 x, type := ty, pos := pos, after := after, guard := guard } = (do pure (.value (← bxd (ρ x)))) := rfl
theorem execOp_st (ρ : Operand → Value) (dst : Option Tmp) (x y : Operand) (ty : TypeId) (pos : String) (after : Array Edge) (guard : Option (Nat × Bool)) :
    execOp ρ { dst := dst, op := .store 37 x y, type := ty, pos := pos, after := after, guard := guard } = (do sto (ρ x) (ρ y); pure .skip) := rfl
theorem run_box (c : Ck) (w : World) : (bxd (cv c)).run Try.prog w = .ok (.pointer (some ⟨w.heap.size, 0, none⟩)) (w.alloc (.cells (cc c) 37)) := by rfl
theorem Bx.ld {w : World} {B : Nat} {c : Ck} (h : Bx w B c) : (ld (.pointer (some ⟨B, 0, none⟩))).run Try.prog w = .ok (cv c) w := by
  unfold Chu.ld
  simp only [Instr.loadAt, Instr.sureAddr, Sem.run_bind, Sem.run_pure, Result.andThen_ok, h.load]
theorem Bx.new (w : World) (c : Ck) : Bx (w.alloc (.cells (cc c) 37)) w.heap.size c := heap_alloc_new w _
theorem Bx.lt {w : World} {B : Nat} {c : Ck} (h : Bx w B c) : B < w.heap.size := (Array.getElem?_eq_some_iff.1 h).1
theorem Bx.later {w w' : World} {B : Nat} {c : Ck} (h : Bx w B c) (hb : Below w.heap.size w w') : Bx w' B c := (hb.block B h.lt).trans h
theorem Bx.alloc {w : World} {B : Nat} {c : Ck} (h : Bx w B c) (o : Obj) : Bx (w.alloc o) B c := (heap_alloc_old w o h.lt).trans h
theorem Bx.fr {w : World} {B : Nat} {c : Ck} (h : Bx w B c) (i : Nat) : w.frozen? ⟨B, i, none⟩ = false := by unfold Bx at h; simp [World.frozen?, h]
theorem below_box (w : World) (c : Ck) : Below w.heap.size w (w.alloc (.cells (cc c) 37)) := (Below.refl _ w).alloc (Nat.le_refl _) _
theorem heap_set (w : World) (b i : Nat) (v : Value) {cs : Array Value} {t : TypeId} (h : w.heap[b]? = some (.cells cs t (0, 0))) : (w.setCell ⟨b, i, none⟩ v).heap[b]? = some (.cells (cs.setIfInBounds i v) t (0, 0)) := by
  simp [World.setCell, Array.getElem?_modify, h]
theorem bx_cell {w : World} {B i : Nat} {c : Ck} {v : Value} (h : Bx w B c) (hi : (cc c)[i]? = some v) : w.cell? ⟨B, i, none⟩ = some v := by unfold Bx at h; simp only [World.cell?, h]; exact hi
theorem cc_0 (c : Ck) : (cc c)[0]? = some (.int .u8 c.kind) := rfl
theorem Bx.c0 {w : World} {B : Nat} {c : Ck} (h : Bx w B c) : w.cell? ⟨B, 0, none⟩ = some (.int .u8 c.kind) := bx_cell h (cc_0 c)
theorem cc_1 (c : Ck) : (cc c)[1]? = some (.int .u8 c.flags) := rfl
theorem Bx.c1 {w : World} {B : Nat} {c : Ck} (h : Bx w B c) : w.cell? ⟨B, 1, none⟩ = some (.int .u8 c.flags) := bx_cell h (cc_1 c)
theorem cc_2 (c : Ck) : (cc c)[2]? = some (.int .u32 c.tsn) := rfl
theorem Bx.c2 {w : World} {B : Nat} {c : Ck} (h : Bx w B c) : w.cell? ⟨B, 2, none⟩ = some (.int .u32 c.tsn) := bx_cell h (cc_2 c)
theorem cc_3 (c : Ck) : (cc c)[3]? = some (.int .u16 c.stream) := rfl
theorem Bx.c3 {w : World} {B : Nat} {c : Ck} (h : Bx w B c) : w.cell? ⟨B, 3, none⟩ = some (.int .u16 c.stream) := bx_cell h (cc_3 c)
theorem cc_4 (c : Ck) : (cc c)[4]? = some (.int .u16 c.ssn) := rfl
theorem Bx.c4 {w : World} {B : Nat} {c : Ck} (h : Bx w B c) : w.cell? ⟨B, 4, none⟩ = some (.int .u16 c.ssn) := bx_cell h (cc_4 c)
theorem cc_5 (c : Ck) : (cc c)[5]? = some (.int .u32 c.proto) := rfl
theorem Bx.c5 {w : World} {B : Nat} {c : Ck} (h : Bx w B c) : w.cell? ⟨B, 5, none⟩ = some (.int .u32 c.proto) := bx_cell h (cc_5 c)
theorem cc_6 (c : Ck) : (cc c)[6]? = some (.int .u32 c.tag) := rfl
theorem Bx.c6 {w : World} {B : Nat} {c : Ck} (h : Bx w B c) : w.cell? ⟨B, 6, none⟩ = some (.int .u32 c.tag) := bx_cell h (cc_6 c)
theorem cc_7 (c : Ck) : (cc c)[7]? = some (.int .u32 c.win) := rfl
theorem Bx.c7 {w : World} {B : Nat} {c : Ck} (h : Bx w B c) : w.cell? ⟨B, 7, none⟩ = some (.int .u32 c.win) := bx_cell h (cc_7 c)
theorem cc_8 (c : Ck) : (cc c)[8]? = some (.int .u16 c.out) := rfl
theorem Bx.c8 {w : World} {B : Nat} {c : Ck} (h : Bx w B c) : w.cell? ⟨B, 8, none⟩ = some (.int .u16 c.out) := bx_cell h (cc_8 c)
theorem cc_9 (c : Ck) : (cc c)[9]? = some (.int .u16 c.inn) := rfl
theorem Bx.c9 {w : World} {B : Nat} {c : Ck} (h : Bx w B c) : w.cell? ⟨B, 9, none⟩ = some (.int .u16 c.inn) := bx_cell h (cc_9 c)
theorem cc_10 (c : Ck) : (cc c)[10]? = some (.slice c.ga c.gl c.gc) := rfl
theorem Bx.c10 {w : World} {B : Nat} {c : Ck} (h : Bx w B c) : w.cell? ⟨B, 10, none⟩ = some (.slice c.ga c.gl c.gc) := bx_cell h (cc_10 c)
theorem cc_11 (c : Ck) : (cc c)[11]? = some (.slice c.na c.nl c.nc) := rfl
theorem Bx.c11 {w : World} {B : Nat} {c : Ck} (h : Bx w B c) : w.cell? ⟨B, 11, none⟩ = some (.slice c.na c.nl c.nc) := bx_cell h (cc_11 c)
theorem cc_12 (c : Ck) : (cc c)[12]? = some (.slice c.da c.dl c.dc) := rfl
theorem Bx.c12 {w : World} {B : Nat} {c : Ck} (h : Bx w B c) : w.cell? ⟨B, 12, none⟩ = some (.slice c.da c.dl c.dc) := bx_cell h (cc_12 c)
theorem cc_13 (c : Ck) : (cc c)[13]? = some (.slice c.ba c.bl c.bc) := rfl
theorem Bx.c13 {w : World} {B : Nat} {c : Ck} (h : Bx w B c) : w.cell? ⟨B, 13, none⟩ = some (.slice c.ba c.bl c.bc) := bx_cell h (cc_13 c)
theorem cc_14 (c : Ck) : (cc c)[14]? = some (.slice c.pa c.pl c.pc) := rfl
theorem Bx.c14 {w : World} {B : Nat} {c : Ck} (h : Bx w B c) : w.cell? ⟨B, 14, none⟩ = some (.slice c.pa c.pl c.pc) := bx_cell h (cc_14 c)
theorem Bx.s0 {w : World} {B : Nat} {c : Ck} (h : Bx w B c) (x : Int) : Bx (w.setCell ⟨B, 0, none⟩ (.int .u8 x)) B { c with kind := x } := heap_set w B 0 _ h
theorem Bx.s1 {w : World} {B : Nat} {c : Ck} (h : Bx w B c) (x : Int) : Bx (w.setCell ⟨B, 1, none⟩ (.int .u8 x)) B { c with flags := x } := heap_set w B 1 _ h
theorem Bx.s2 {w : World} {B : Nat} {c : Ck} (h : Bx w B c) (x : Int) : Bx (w.setCell ⟨B, 2, none⟩ (.int .u32 x)) B { c with tsn := x } := heap_set w B 2 _ h
theorem Bx.s3 {w : World} {B : Nat} {c : Ck} (h : Bx w B c) (x : Int) : Bx (w.setCell ⟨B, 3, none⟩ (.int .u16 x)) B { c with stream := x } := heap_set w B 3 _ h
theorem Bx.s4 {w : World} {B : Nat} {c : Ck} (h : Bx w B c) (x : Int) : Bx (w.setCell ⟨B, 4, none⟩ (.int .u16 x)) B { c with ssn := x } := heap_set w B 4 _ h
theorem Bx.s5 {w : World} {B : Nat} {c : Ck} (h : Bx w B c) (x : Int) : Bx (w.setCell ⟨B, 5, none⟩ (.int .u32 x)) B { c with proto := x } := heap_set w B 5 _ h
theorem Bx.s6 {w : World} {B : Nat} {c : Ck} (h : Bx w B c) (x : Int) : Bx (w.setCell ⟨B, 6, none⟩ (.int .u32 x)) B { c with tag := x } := heap_set w B 6 _ h
theorem Bx.s7 {w : World} {B : Nat} {c : Ck} (h : Bx w B c) (x : Int) : Bx (w.setCell ⟨B, 7, none⟩ (.int .u32 x)) B { c with win := x } := heap_set w B 7 _ h
theorem Bx.s8 {w : World} {B : Nat} {c : Ck} (h : Bx w B c) (x : Int) : Bx (w.setCell ⟨B, 8, none⟩ (.int .u16 x)) B { c with out := x } := heap_set w B 8 _ h
theorem Bx.s9 {w : World} {B : Nat} {c : Ck} (h : Bx w B c) (x : Int) : Bx (w.setCell ⟨B, 9, none⟩ (.int .u16 x)) B { c with inn := x } := heap_set w B 9 _ h
theorem Bx.s10 {w : World} {B : Nat} {c : Ck} (h : Bx w B c) (a : Option Addr) (l k : Nat) (xs : List (Int × Int)) : Bx (w.setCell ⟨B, 10, none⟩ (.slice a l k)) B { c with ga := a, gl := l, gc := k, gs := xs } := heap_set w B 10 _ h
theorem Bx.s11 {w : World} {B : Nat} {c : Ck} (h : Bx w B c) (a : Option Addr) (l k : Nat) (xs : List (Int × Int)) : Bx (w.setCell ⟨B, 11, none⟩ (.slice a l k)) B { c with na := a, nl := l, nc := k, ns := xs } := heap_set w B 11 _ h
theorem Bx.s12 {w : World} {B : Nat} {c : Ck} (h : Bx w B c) (a : Option Addr) (l k : Nat) (xs : List Int) : Bx (w.setCell ⟨B, 12, none⟩ (.slice a l k)) B { c with da := a, dl := l, dc := k, ds := xs } := heap_set w B 12 _ h
theorem Bx.s13 {w : World} {B : Nat} {c : Ck} (h : Bx w B c) (a : Option Addr) (l k : Nat) (xs : List Int) : Bx (w.setCell ⟨B, 13, none⟩ (.slice a l k)) B { c with ba := a, bl := l, bc := k, bs := xs } := heap_set w B 13 _ h
theorem Bx.s14 {w : World} {B : Nat} {c : Ck} (h : Bx w B c) (a : Option Addr) (l k : Nat) (xs : List Prm) : Bx (w.setCell ⟨B, 14, none⟩ (.slice a l k)) B { c with pa := a, pl := l, pc := k, ps := xs } := heap_set w B 14 _ h
attribute [local go_sem ↓] execOp_ld execOp_bx execOp_st
attribute [local go_sem] run_box cc_0 cc_1 cc_2 cc_3 cc_4 cc_5 cc_6 cc_7 cc_8 cc_9 cc_10 cc_11 cc_12 cc_13 cc_14

theorem beq_t {x y : Int} (h : x = y) : (x == y) = true := by simpa using h
theorem beq_f {x y : Int} (h : ¬ x = y) : (x == y) = false := by simpa using h
theorem bne_t {x y : Int} (h : ¬ x = y) : (x != y) = true := by simpa using h
theorem bne_f {x y : Int} (h : x = y) : (x != y) = false := by simpa using h
theorem ret_bool {t : Bool} {p : Prop} {w w' : World} (h : t = true ↔ p) (hb : Below w.heap.size w w') : ∃ t' : Bool, Ending.returned (.bool t) = .returned (.bool t') ∧ (t' = true ↔ p) ∧ Below w.heap.size w w' := ⟨t, rfl, h, hb⟩
/-- the numbers are alike -/
def NumEq (c d : Ck) : Prop := c.kind = d.kind ∧ c.flags = d.flags ∧ c.tsn = d.tsn ∧ c.stream = d.stream ∧ c.ssn = d.ssn ∧ c.proto = d.proto ∧ c.tag = d.tag ∧ c.win = d.win ∧ c.out = d.out ∧ c.inn = d.inn
set_option maxRecDepth 20000 in
theorem fa0 (w : World) (B : Nat) : (Instr.fieldAt 37 (.pointer (some ⟨B, 0, none⟩)) 0).run Try.prog w = .ok (.pointer (some ⟨B, 0, none⟩)) w := by simp [go_sem]
set_option maxRecDepth 20000 in
theorem fa1 (w : World) (B : Nat) : (Instr.fieldAt 37 (.pointer (some ⟨B, 0, none⟩)) 1).run Try.prog w = .ok (.pointer (some ⟨B, 1, none⟩)) w := by simp [go_sem]
set_option maxRecDepth 20000 in
theorem fa2 (w : World) (B : Nat) : (Instr.fieldAt 37 (.pointer (some ⟨B, 0, none⟩)) 2).run Try.prog w = .ok (.pointer (some ⟨B, 2, none⟩)) w := by simp [go_sem]
set_option maxRecDepth 20000 in
theorem fa3 (w : World) (B : Nat) : (Instr.fieldAt 37 (.pointer (some ⟨B, 0, none⟩)) 3).run Try.prog w = .ok (.pointer (some ⟨B, 3, none⟩)) w := by simp [go_sem]
set_option maxRecDepth 20000 in
theorem fa4 (w : World) (B : Nat) : (Instr.fieldAt 37 (.pointer (some ⟨B, 0, none⟩)) 4).run Try.prog w = .ok (.pointer (some ⟨B, 4, none⟩)) w := by simp [go_sem]
set_option maxRecDepth 20000 in
theorem fa5 (w : World) (B : Nat) : (Instr.fieldAt 37 (.pointer (some ⟨B, 0, none⟩)) 5).run Try.prog w = .ok (.pointer (some ⟨B, 5, none⟩)) w := by simp [go_sem]
set_option maxRecDepth 20000 in
theorem fa6 (w : World) (B : Nat) : (Instr.fieldAt 37 (.pointer (some ⟨B, 0, none⟩)) 6).run Try.prog w = .ok (.pointer (some ⟨B, 6, none⟩)) w := by simp [go_sem]
set_option maxRecDepth 20000 in
theorem fa7 (w : World) (B : Nat) : (Instr.fieldAt 37 (.pointer (some ⟨B, 0, none⟩)) 7).run Try.prog w = .ok (.pointer (some ⟨B, 7, none⟩)) w := by simp [go_sem]
set_option maxRecDepth 20000 in
theorem fa8 (w : World) (B : Nat) : (Instr.fieldAt 37 (.pointer (some ⟨B, 0, none⟩)) 8).run Try.prog w = .ok (.pointer (some ⟨B, 8, none⟩)) w := by simp [go_sem]
set_option maxRecDepth 20000 in
theorem fa9 (w : World) (B : Nat) : (Instr.fieldAt 37 (.pointer (some ⟨B, 0, none⟩)) 9).run Try.prog w = .ok (.pointer (some ⟨B, 9, none⟩)) w := by simp [go_sem]
set_option maxRecDepth 20000 in
theorem fa10 (w : World) (B : Nat) : (Instr.fieldAt 37 (.pointer (some ⟨B, 0, none⟩)) 10).run Try.prog w = .ok (.pointer (some ⟨B, 10, none⟩)) w := by simp [go_sem]
set_option maxRecDepth 20000 in
theorem fa11 (w : World) (B : Nat) : (Instr.fieldAt 37 (.pointer (some ⟨B, 0, none⟩)) 11).run Try.prog w = .ok (.pointer (some ⟨B, 11, none⟩)) w := by simp [go_sem]
set_option maxRecDepth 20000 in
theorem fa12 (w : World) (B : Nat) : (Instr.fieldAt 37 (.pointer (some ⟨B, 0, none⟩)) 12).run Try.prog w = .ok (.pointer (some ⟨B, 12, none⟩)) w := by simp [go_sem]
set_option maxRecDepth 20000 in
theorem fa13 (w : World) (B : Nat) : (Instr.fieldAt 37 (.pointer (some ⟨B, 0, none⟩)) 13).run Try.prog w = .ok (.pointer (some ⟨B, 13, none⟩)) w := by simp [go_sem]
set_option maxRecDepth 20000 in
theorem fa14 (w : World) (B : Nat) : (Instr.fieldAt 37 (.pointer (some ⟨B, 0, none⟩)) 14).run Try.prog w = .ok (.pointer (some ⟨B, 14, none⟩)) w := by simp [go_sem]
theorem ldK (w : World) (a : Addr) (v : Int) (h : w.cell? a = some (.int .u8 v)) : (Instr.loadAt 30 (.pointer (some a))).run Try.prog w = .ok (.int .u8 v) w := by simp [go_sem, h]
theorem eqK (w : World) (X Y : Operand) (x y : Int) : (do eqGuard .eql 30 X Y (.int .u8 x) (.int .u8 y); binOp .eql 30 (.int .u8 x) (.int .u8 y)).run Try.prog w = .ok (.bool (x == y)) w := by simp [go_sem]
theorem neK (w : World) (X Y : Operand) (x y : Int) : (do eqGuard .neq 30 X Y (.int .u8 x) (.int .u8 y); binOp .neq 30 (.int .u8 x) (.int .u8 y)).run Try.prog w = .ok (.bool (x != y)) w := by simp [go_sem]
theorem ld8 (w : World) (a : Addr) (v : Int) (h : w.cell? a = some (.int .u8 v)) : (Instr.loadAt 5 (.pointer (some a))).run Try.prog w = .ok (.int .u8 v) w := by simp [go_sem, h]
theorem eq8 (w : World) (X Y : Operand) (x y : Int) : (do eqGuard .eql 5 X Y (.int .u8 x) (.int .u8 y); binOp .eql 5 (.int .u8 x) (.int .u8 y)).run Try.prog w = .ok (.bool (x == y)) w := by simp [go_sem]
theorem ne8 (w : World) (X Y : Operand) (x y : Int) : (do eqGuard .neq 5 X Y (.int .u8 x) (.int .u8 y); binOp .neq 5 (.int .u8 x) (.int .u8 y)).run Try.prog w = .ok (.bool (x != y)) w := by simp [go_sem]
theorem ld16 (w : World) (a : Addr) (v : Int) (h : w.cell? a = some (.int .u16 v)) : (Instr.loadAt 32 (.pointer (some a))).run Try.prog w = .ok (.int .u16 v) w := by simp [go_sem, h]
theorem eq16 (w : World) (X Y : Operand) (x y : Int) : (do eqGuard .eql 32 X Y (.int .u16 x) (.int .u16 y); binOp .eql 32 (.int .u16 x) (.int .u16 y)).run Try.prog w = .ok (.bool (x == y)) w := by simp [go_sem]
theorem ne16 (w : World) (X Y : Operand) (x y : Int) : (do eqGuard .neq 32 X Y (.int .u16 x) (.int .u16 y); binOp .neq 32 (.int .u16 x) (.int .u16 y)).run Try.prog w = .ok (.bool (x != y)) w := by simp [go_sem]
theorem ld32 (w : World) (a : Addr) (v : Int) (h : w.cell? a = some (.int .u32 v)) : (Instr.loadAt 31 (.pointer (some a))).run Try.prog w = .ok (.int .u32 v) w := by simp [go_sem, h]
theorem eq32 (w : World) (X Y : Operand) (x y : Int) : (do eqGuard .eql 31 X Y (.int .u32 x) (.int .u32 y); binOp .eql 31 (.int .u32 x) (.int .u32 y)).run Try.prog w = .ok (.bool (x == y)) w := by simp [go_sem]
theorem ne32 (w : World) (X Y : Operand) (x y : Int) : (do eqGuard .neq 31 X Y (.int .u32 x) (.int .u32 y); binOp .neq 31 (.int .u32 x) (.int .u32 y)).run Try.prog w = .ok (.bool (x != y)) w := by simp [go_sem]
theorem sameNumbers (c d : Ck) (w : World) : Calls Try.prog 40 #[cv c, cv d] w fun e w' => ∃ t : Bool, e = .returned (.bool t) ∧ (t = true ↔ NumEq c d) ∧ Below w.heap.size w w' := by
  have hb := (below_box w c).trans ((below_box (w.alloc (.cells (cc c) 37)) d).mono (by simp))
  have b1 := (Bx.new w c).alloc (.cells (cc d) 37)
  have b2 := Bx.new (w.alloc (.cells (cc c) 37)) d
  simp only [World.size_alloc] at b2
  go_enter Try.func40, Try.ntmps40
  go_upto_region 1 with fail
  generalize (w.alloc (.cells (cc c) 37)).alloc (.cells (cc d) 37) = W at *
  refine wp_region_lit ?_
  refine Ord.first_eq (N := 73) (T := 30) (κ := .u8) (fun B => fa0 _ B) (fun B v h => ldK _ _ v h) (fun X Y => eqK _ X Y _ _) b1.c0 b2.c0 (by exact ⟨rfl, rfl, fun p hp => by simp only [List.mem_cons, List.not_mem_nil, or_false] at hp; rcases hp with rfl | rfl <;> rfl⟩) rfl rfl rfl rfl rfl rfl rfl rfl rfl rfl rfl rfl rfl rfl rfl rfl rfl rfl rfl rfl fun a1 hF1 => ?_
  refine Ord.st_move hF1 (.inl rfl) rfl rfl rfl fun a2 hF2 => ?_
  refine Ord.link_and (T := 5) (κ := .u8) (fun B => fa1 _ B) (fun B v h => ld8 _ _ v h) (fun X Y => eq8 _ X Y _ _) b1.c1 b2.c1 hF2 rfl rfl rfl rfl rfl rfl rfl rfl rfl rfl rfl rfl rfl rfl rfl rfl rfl rfl rfl (by decide) rfl rfl rfl rfl rfl rfl fun a3 hF3 => ?_
  refine Ord.st_move hF3 (.inl rfl) rfl rfl rfl fun a4 hF4 => ?_
  refine Ord.link_and (T := 31) (κ := .u32) (fun B => fa2 _ B) (fun B v h => ld32 _ _ v h) (fun X Y => eq32 _ X Y _ _) b1.c2 b2.c2 hF4 rfl rfl rfl rfl rfl rfl rfl rfl rfl rfl rfl rfl rfl rfl rfl rfl rfl rfl rfl (by decide) rfl rfl rfl rfl rfl rfl fun a5 hF5 => ?_
  refine Ord.st_move hF5 (.inl rfl) rfl rfl rfl fun a6 hF6 => ?_
  refine Ord.link_and (T := 32) (κ := .u16) (fun B => fa3 _ B) (fun B v h => ld16 _ _ v h) (fun X Y => eq16 _ X Y _ _) b1.c3 b2.c3 hF6 rfl rfl rfl rfl rfl rfl rfl rfl rfl rfl rfl rfl rfl rfl rfl rfl rfl rfl rfl (by decide) rfl rfl rfl rfl rfl rfl fun a7 hF7 => ?_
  refine Ord.st_move hF7 (.inl rfl) rfl rfl rfl fun a8 hF8 => ?_
  refine Ord.link_and (T := 32) (κ := .u16) (fun B => fa4 _ B) (fun B v h => ld16 _ _ v h) (fun X Y => eq16 _ X Y _ _) b1.c4 b2.c4 hF8 rfl rfl rfl rfl rfl rfl rfl rfl rfl rfl rfl rfl rfl rfl rfl rfl rfl rfl rfl (by decide) rfl rfl rfl rfl rfl rfl fun a9 hF9 => ?_
  refine Ord.st_move hF9 (.inl rfl) rfl rfl rfl fun a10 hF10 => ?_
  refine Ord.link_and (T := 31) (κ := .u32) (fun B => fa5 _ B) (fun B v h => ld32 _ _ v h) (fun X Y => eq32 _ X Y _ _) b1.c5 b2.c5 hF10 rfl rfl rfl rfl rfl rfl rfl rfl rfl rfl rfl rfl rfl rfl rfl rfl rfl rfl rfl (by decide) rfl rfl rfl rfl rfl rfl fun a11 hF11 => ?_
  refine Ord.st_move hF11 (.inl rfl) rfl rfl rfl fun a12 hF12 => ?_
  refine Ord.link_and (T := 31) (κ := .u32) (fun B => fa6 _ B) (fun B v h => ld32 _ _ v h) (fun X Y => eq32 _ X Y _ _) b1.c6 b2.c6 hF12 rfl rfl rfl rfl rfl rfl rfl rfl rfl rfl rfl rfl rfl rfl rfl rfl rfl rfl rfl (by decide) rfl rfl rfl rfl rfl rfl fun a13 hF13 => ?_
  refine Ord.st_move hF13 (.inl rfl) rfl rfl rfl fun a14 hF14 => ?_
  refine Ord.link_and (T := 31) (κ := .u32) (fun B => fa7 _ B) (fun B v h => ld32 _ _ v h) (fun X Y => eq32 _ X Y _ _) b1.c7 b2.c7 hF14 rfl rfl rfl rfl rfl rfl rfl rfl rfl rfl rfl rfl rfl rfl rfl rfl rfl rfl rfl (by decide) rfl rfl rfl rfl rfl rfl fun a15 hF15 => ?_
  refine Ord.st_move hF15 (.inl rfl) rfl rfl rfl fun a16 hF16 => ?_
  refine Ord.link_and (T := 32) (κ := .u16) (fun B => fa8 _ B) (fun B v h => ld16 _ _ v h) (fun X Y => eq16 _ X Y _ _) b1.c8 b2.c8 hF16 rfl rfl rfl rfl rfl rfl rfl rfl rfl rfl rfl rfl rfl rfl rfl rfl rfl rfl rfl (by decide) rfl rfl rfl rfl rfl rfl fun a17 hF17 => ?_
  refine Ord.st_move hF17 (.inl rfl) rfl rfl rfl fun a18 hF18 => ?_
  refine Ord.link_and (T := 32) (κ := .u16) (fun B => fa9 _ B) (fun B v h => ld16 _ _ v h) (fun X Y => eq16 _ X Y _ _) b1.c9 b2.c9 hF18 rfl rfl rfl rfl rfl rfl rfl rfl rfl rfl rfl rfl rfl rfl rfl rfl rfl rfl rfl (by decide) rfl rfl rfl rfl rfl rfl fun a19 hF19 => ?_
  refine Ord.st_move hF19 (.inr rfl) rfl rfl rfl fun a20 hF20 => ?_
  refine wpList_nil ?_
  rename_i hKK
  refine hKK _ _ (wp_ret ?_)
  have h4 := hF20.at0
  obtain ⟨t, h4', ht⟩ : ∃ t, a20.tmps[4]?.getD undef = .bool t ∧ (t = true ↔ NumEq c d) := ⟨_, by simpa [Act.eval] using h4, by simp [NumEq, and_assoc]⟩
  refine bodyPost_ret (v := .bool t) ?_ hF20.2.1 ⟨t, rfl, ht, hb⟩
  simp [results, Try.results40, go_sem, h4']
end Go.Proofs.Ytifdkpifambhaaa.Chu
