/-
  Chunks in memory. Which chunks are alike, as package chunk tells it. Kinds of chunks, what a chunk has beside what its kind has, how many bytes its value has, as package chunk tells it. What a chunk has beside the fields and flags of its kind.
  Conditions: as at each lemma.
-/
import Derived.Test.YtmnndkhdekpecaaGreatDoorPa
import Derived.Test.YtmnndkhdekpecaaGreatDoorOr
import Derived.Deep.Cut
import Derived.BigQuiet
import Derived.Laws.StructEq
import Derived.Laws.IdiomCopy
import Derived.Deep.MidRow
import Derived.Deep.CutRange
import Derived.Deep.DeepCutAuto
namespace Go.Proofs.YtmnndkhdekpecaaGreatDoor.Chu
open Go.ChangeShapes Go.WideShapes Go.ChangeAt Go.RowKit
open Par (hidden Bytes Row Prm Prms cell_lt)
set_option linter.unusedVariables false

/-- a chunk: its numbers; of each list its address, length, capacity and what it holds -/
structure Ck where
  kind : Int
  flags : Int
  tsn : Int
  stream : Int
  ssn : Int
  proto : Int
  tag : Int
  win : Int
  out : Int
  inn : Int
  ga : Option Addr
  gl : Nat
  gc : Nat
  gs : List (Int × Int)
  na : Option Addr
  nl : Nat
  nc : Nat
  ns : List (Int × Int)
  da : Option Addr
  dl : Nat
  dc : Nat
  ds : List Int
  ba : Option Addr
  bl : Nat
  bc : Nat
  bs : List Int
  pa : Option Addr
  pl : Nat
  pc : Nat
  ps : List Prm
/-- its cells -/
def cc (c : Ck) : Array Value := #[.int .u8 c.kind, .int .u8 c.flags, .int .u32 c.tsn, .int .u16 c.stream, .int .u16 c.ssn, .int .u32 c.proto, .int .u32 c.tag, .int .u32 c.win, .int .u16 c.out, .int .u16 c.inn, .slice c.ga c.gl c.gc, .slice c.na c.nl c.nc, .slice c.da c.dl c.dc, .slice c.ba c.bl c.bc, .slice c.pa c.pl c.pc]
/-- it as a value -/
def cv (c : Ck) : Value := .agg (cc c)
/-- what a chunk says -/
structure Ch where
  kind : Int
  flags : Int
  tsn : Int
  stream : Int
  ssn : Int
  proto : Int
  tag : Int
  win : Int
  out : Int
  inn : Int
  gs : List (Int × Int)
  ns : List (Int × Int)
  ds : List Int
  bs : List Int
  ps : List (Int × List Int)
def val (c : Ck) : Ch := ⟨c.kind, c.flags, c.tsn, c.stream, c.ssn, c.proto, c.tag, c.win, c.out, c.inn, c.gs, c.ns, c.ds, c.bs, c.ps.map Par.val⟩
/-- cells that lie one behind the other, in a block from base on -/
def Lies (base : Nat) (w : World) (a : Option Addr) (xs : List Value) : Prop := xs = [] ∨ ∃ b off, a = some ⟨b, off, none⟩ ∧ base ≤ b ∧ ∀ j u, xs[j]? = some u → w.cell? ⟨b, off + j, none⟩ = some u
theorem Lies.later {base : Nat} {w w' : World} {a : Option Addr} {xs : List Value} (h : Lies base w a xs) (hb : Below w.heap.size w w') : Lies base w' a xs := by
  refine h.imp id ?_
  rintro ⟨b, off, rfl, hbb, hc⟩
  exact ⟨b, off, rfl, hbb, fun j u hj => (hb.cell (cell_lt (hc j u hj))).trans (hc j u hj)⟩
theorem Lies.set {base : Nat} {w : World} {a : Option Addr} {xs : List Value} (h : Lies base w a xs) {x : Addr} (hx : x.block < base) (v : Value) : Lies base (w.setCell x v) a xs := by
  refine h.imp id ?_
  rintro ⟨b, off, rfl, hbb, hc⟩
  exact ⟨b, off, rfl, hbb, fun j u hj => (World.cell?_setCell_other _ _ _ _ (fun e => by subst e; exact absurd hx (Nat.not_lt.2 hbb))).trans (hc j u hj)⟩
theorem Lies.mono {base base' : Nat} {w : World} {a : Option Addr} {xs : List Value} (h : Lies base w a xs) (hb : base' ≤ base) : Lies base' w a xs := by
  refine h.imp id ?_
  rintro ⟨b, off, rfl, hbb, hc⟩
  exact ⟨b, off, rfl, Nat.le_trans hb hbb, hc⟩
/-- gaps as cells, numbers as cells -/
def gcs (gs : List (Int × Int)) : List Value := gs.flatMap fun g => [.int .u16 g.1, .int .u16 g.2]
def dcs (ds : List Int) : List Value := ds.map (.int .u32)
/-- a list of gaps, of numbers -/
def Gaps (base : Nat) (w : World) (a : Option Addr) (n : Nat) (gs : List (Int × Int)) : Prop :=
  gs.length = n ∧ n ≤ 140737488355328 ∧ (∀ g ∈ gs, (0 ≤ g.1 ∧ g.1 < 65536) ∧ (0 ≤ g.2 ∧ g.2 < 65536)) ∧ Lies base w a (gcs gs)
def Fours (base : Nat) (w : World) (a : Option Addr) (n : Nat) (ds : List Int) : Prop :=
  ds.length = n ∧ n ≤ 140737488355328 ∧ (∀ d ∈ ds, 0 ≤ d ∧ d < 4294967296) ∧ Lies base w a (dcs ds)
theorem Gaps.later {base : Nat} {w w' : World} {a : Option Addr} {n : Nat} {l : List (Int × Int)} (h : Gaps base w a n l) (hb : Below w.heap.size w w') : Gaps base w' a n l := ⟨h.1, h.2.1, h.2.2.1, h.2.2.2.later hb⟩
theorem Gaps.set {base : Nat} {w : World} {a : Option Addr} {n : Nat} {l : List (Int × Int)} (h : Gaps base w a n l) {x : Addr} (hx : x.block < base) (v : Value) : Gaps base (w.setCell x v) a n l := ⟨h.1, h.2.1, h.2.2.1, h.2.2.2.set hx v⟩
theorem Gaps.mono {base base' : Nat} {w : World} {a : Option Addr} {n : Nat} {l : List (Int × Int)} (h : Gaps base w a n l) (hb : base' ≤ base) : Gaps base' w a n l := ⟨h.1, h.2.1, h.2.2.1, h.2.2.2.mono hb⟩
theorem Gaps.nil (base : Nat) (w : World) (a : Option Addr) : Gaps base w a 0 [] := ⟨rfl, by decide, (fun g hg => by cases hg), .inl rfl⟩
theorem Fours.later {base : Nat} {w w' : World} {a : Option Addr} {n : Nat} {l : List Int} (h : Fours base w a n l) (hb : Below w.heap.size w w') : Fours base w' a n l := ⟨h.1, h.2.1, h.2.2.1, h.2.2.2.later hb⟩
theorem Fours.set {base : Nat} {w : World} {a : Option Addr} {n : Nat} {l : List Int} (h : Fours base w a n l) {x : Addr} (hx : x.block < base) (v : Value) : Fours base (w.setCell x v) a n l := ⟨h.1, h.2.1, h.2.2.1, h.2.2.2.set hx v⟩
theorem Fours.mono {base base' : Nat} {w : World} {a : Option Addr} {n : Nat} {l : List Int} (h : Fours base w a n l) (hb : base' ≤ base) : Fours base' w a n l := ⟨h.1, h.2.1, h.2.2.1, h.2.2.2.mono hb⟩
theorem Fours.nil (base : Nat) (w : World) (a : Option Addr) : Fours base w a 0 [] := ⟨rfl, by decide, (fun g hg => by cases hg), .inl rfl⟩
theorem gcs_get (gs : List (Int × Int)) (k : Nat) (g : Int × Int) (h : gs[k]? = some g) : (gcs gs)[k * 2]? = some (.int .u16 g.1) ∧ (gcs gs)[k * 2 + 1]? = some (.int .u16 g.2) := by
  induction gs generalizing k with
  | nil => simp at h
  | cons x gs ih =>
    cases k with
    | zero =>
      simp only [List.getElem?_cons_zero, Option.some.injEq] at h
      subst h
      exact ⟨rfl, rfl⟩
    | succ k =>
      have := ih k (by simpa using h)
      have e : gcs (x :: gs) = .int .u16 x.1 :: .int .u16 x.2 :: gcs gs := rfl
      rw [e, show (k + 1) * 2 = k * 2 + 1 + 1 by omega]
      simpa using this
theorem gcs_len (gs : List (Int × Int)) : (gcs gs).length = gs.length * 2 := by
  induction gs with
  | nil => rfl
  | cons x gs ih =>
    have e : gcs (x :: gs) = .int .u16 x.1 :: .int .u16 x.2 :: gcs gs := rfl
    rw [e, List.length_cons, List.length_cons, List.length_cons, ih]
    omega
theorem Gaps.get {base : Nat} {w : World} {a : Option Addr} {n k : Nat} {gs : List (Int × Int)} (h : Gaps base w a n gs) (hk : k < n) :
    ∃ b off s e, a = some ⟨b, off, none⟩ ∧ gs[k]? = some (s, e) ∧ w.cell? ⟨b, off + k * 2, none⟩ = some (.int .u16 s) ∧ w.cell? ⟨b, off + k * 2 + 1, none⟩ = some (.int .u16 e) ∧ (0 ≤ s ∧ s < 65536) ∧ (0 ≤ e ∧ e < 65536) := by
  obtain ⟨h1, h2, h3, h4⟩ := h
  have hkl : k < gs.length := by omega
  rcases h4 with h0 | ⟨b, off, rfl, hbb, hc⟩
  · have := gcs_len gs
    rw [h0] at this
    simp at this
    omega
  · obtain ⟨g1, g2⟩ := gcs_get gs k gs[k] (List.getElem?_eq_getElem hkl)
    have hb := h3 gs[k] (List.getElem_mem hkl)
    exact ⟨b, off, gs[k].1, gs[k].2, rfl, List.getElem?_eq_getElem hkl, hc _ _ g1, by rw [Nat.add_assoc]; exact hc _ _ g2, hb.1, hb.2⟩
theorem Fours.get {base : Nat} {w : World} {a : Option Addr} {n k : Nat} {ds : List Int} (h : Fours base w a n ds) (hk : k < n) :
    ∃ b off d, a = some ⟨b, off, none⟩ ∧ ds[k]? = some d ∧ w.cell? ⟨b, off + k, none⟩ = some (.int .u32 d) ∧ (0 ≤ d ∧ d < 4294967296) := by
  obtain ⟨h1, h2, h3, h4⟩ := h
  have hkl : k < ds.length := by omega
  rcases h4 with h0 | ⟨b, off, rfl, hbb, hc⟩
  · have := congrArg List.length h0
    simp [dcs] at this
    subst this
    simp at hkl
  · exact ⟨b, off, ds[k], rfl, List.getElem?_eq_getElem hkl, hc k _ (by simp [dcs, List.getElem?_eq_getElem hkl]), h3 _ (List.getElem_mem hkl)⟩
/-- its numbers lie within their kinds -/
def Nums (c : Ck) : Prop := (0 ≤ c.kind ∧ c.kind < 256) ∧ (0 ≤ c.flags ∧ c.flags < 256) ∧ (0 ≤ c.tsn ∧ c.tsn < 4294967296) ∧ (0 ≤ c.stream ∧ c.stream < 65536) ∧ (0 ≤ c.ssn ∧ c.ssn < 65536) ∧ (0 ≤ c.proto ∧ c.proto < 4294967296) ∧ (0 ≤ c.tag ∧ c.tag < 4294967296) ∧ (0 ≤ c.win ∧ c.win < 4294967296) ∧ (0 ≤ c.out ∧ c.out < 65536) ∧ (0 ≤ c.inn ∧ c.inn < 65536)
/-- its lists can be read -/
def Lsts (base : Nat) (w : World) (c : Ck) : Prop :=
  Gaps base w c.ga c.gl c.gs ∧ Gaps base w c.na c.nl c.ns ∧ Fours base w c.da c.dl c.ds ∧ Row base w c.ba c.bl c.bs ∧ (c.ba = none → c.bl = 0 ∧ c.bc = 0) ∧ Prms base w c.pa c.pl c.ps
/-- a chunk can be read -/
def Chk (base : Nat) (w : World) (c : Ck) : Prop := Nums c ∧ Lsts base w c
theorem Lsts.later {base : Nat} {w w' : World} {c : Ck} (h : Lsts base w c) (hb : Below w.heap.size w w') : Lsts base w' c := ⟨h.1.later hb, h.2.1.later hb, h.2.2.1.later hb, h.2.2.2.1.later hb, h.2.2.2.2.1, h.2.2.2.2.2.later hb⟩
theorem Lsts.set {base : Nat} {w : World} {c : Ck} (h : Lsts base w c) {x : Addr} (hx : x.block < base) (v : Value) : Lsts base (w.setCell x v) c := ⟨h.1.set hx v, h.2.1.set hx v, h.2.2.1.set hx v, h.2.2.2.1.set hx v, h.2.2.2.2.1, h.2.2.2.2.2.set hx v⟩
theorem Chk.later {base : Nat} {w w' : World} {c : Ck} (h : Chk base w c) (hb : Below w.heap.size w w') : Chk base w' c := ⟨h.1, h.2.later hb⟩
theorem Chk.set {base : Nat} {w : World} {c : Ck} (h : Chk base w c) {x : Addr} (hx : x.block < base) (v : Value) : Chk base (w.setCell x v) c := ⟨h.1, h.2.set hx v⟩
/-- block B holds it -/
def Bx (w : World) (B : Nat) (c : Ck) : Prop := w.heap[B]? = some (.cells (cc c) 59 (0, 0))
theorem size_cc (c : Ck) : (cc c).size = 15 := rfl
theorem infoC : (Tryz.prog.info? 59).map (·.size) = some 15 := by kernel_rfl
theorem Bx.load {w : World} {B : Nat} {c : Ck} (h : Bx w B c) : (loadVar 59 ⟨B, 0, none⟩).run Tryz.prog w = .ok (cv c) w :=
  run_loadVar_row w B 59 59 (cc c) (0, 0) _ h Tryz.underlying59 rfl infoC
/-- a load, a new variable, a store of a whole chunk -/
def ld (v : Value) : Sem Value := Instr.loadAt 59 v
def bxd (v : Value) : Sem Value := Instr.box 59 v
def sto (p v : Value) : Sem Unit := Instr.storeAt 59 p v
theorem execOp_ld (ρ : Operand → Value) (dst : Option Tmp) (x : Operand) (ty : TypeId) (pos : String) (after : Array Edge) (guard : Option (Nat × Bool)) :
    execOp ρ { dst := dst, op := .load 59 x, type := ty, pos := pos, after := after, guard := guard } = (do pure (.value (← ld (ρ x)))) := rfl
theorem execOp_bx (ρ : Operand → Value) (dst : Option Tmp) (x : Operand) (ty : TypeId) (pos : String) (after : Array Edge) (guard : Option (Nat × Bool)) :
    execOp ρ { dst := dst, op := .box 59 x, type := ty, pos := pos, after := after, guard := guard } = (do pure (.value (← bxd (ρ x)))) := rfl
theorem execOp_st (ρ : Operand → Value) (dst : Option Tmp) (x y : Operand) (ty : TypeId) (pos : String) (after : Array Edge) (guard : Option (Nat × Bool)) :
    execOp ρ { dst := dst, op := .store 59 x y, type := ty, pos := pos, after := after, guard := guard } = (do sto (ρ x) (ρ y); pure .skip) := rfl
theorem run_box (c : Ck) (w : World) : (bxd (cv c)).run Tryz.prog w = .ok (.pointer (some ⟨w.heap.size, 0, none⟩)) (w.alloc (.cells (cc c) 59)) := by rfl
theorem Bx.ld {w : World} {B : Nat} {c : Ck} (h : Bx w B c) : (ld (.pointer (some ⟨B, 0, none⟩))).run Tryz.prog w = .ok (cv c) w := by
  unfold Chu.ld
  simp only [Instr.loadAt, Instr.sureAddr, Sem.run_bind, Sem.run_pure, Result.andThen_ok, h.load]
theorem Bx.new (w : World) (c : Ck) : Bx (w.alloc (.cells (cc c) 59)) w.heap.size c := heap_alloc_new w _
theorem Bx.lt {w : World} {B : Nat} {c : Ck} (h : Bx w B c) : B < w.heap.size := (Array.getElem?_eq_some_iff.1 h).1
theorem Bx.later {w w' : World} {B : Nat} {c : Ck} (h : Bx w B c) (hb : Below w.heap.size w w') : Bx w' B c := (hb.block B h.lt).trans h
theorem Bx.alloc {w : World} {B : Nat} {c : Ck} (h : Bx w B c) (o : Obj) : Bx (w.alloc o) B c := (heap_alloc_old w o h.lt).trans h
theorem Bx.fr {w : World} {B : Nat} {c : Ck} (h : Bx w B c) (i : Nat) : w.frozen? ⟨B, i, none⟩ = false := by unfold Bx at h; simp [World.frozen?, h]
theorem below_box (w : World) (c : Ck) : Below w.heap.size w (w.alloc (.cells (cc c) 59)) := (Below.refl _ w).alloc (Nat.le_refl _) _
theorem heap_set (w : World) (b i : Nat) (v : Value) {cs : Array Value} {t : TypeId} (h : w.heap[b]? = some (.cells cs t (0, 0))) : (w.setCell ⟨b, i, none⟩ v).heap[b]? = some (.cells (cs.setIfInBounds i v) t (0, 0)) := by
  simp [World.setCell, Array.getElem?_modify, h]
theorem bx_cell {w : World} {B i : Nat} {c : Ck} {v : Value} (h : Bx w B c) (hi : (cc c)[i]? = some v) : w.cell? ⟨B, i, none⟩ = some v := by unfold Bx at h; simp only [World.cell?, h]; exact hi
theorem cc_0 (c : Ck) : (cc c)[0]? = some (.int .u8 c.kind) := rfl
theorem Bx.c0 {w : World} {B : Nat} {c : Ck} (h : Bx w B c) : w.cell? ⟨B, 0, none⟩ = some (.int .u8 c.kind) := bx_cell h (cc_0 c)
theorem cc_1 (c : Ck) : (cc c)[1]? = some (.int .u8 c.flags) := rfl
theorem Bx.c1 {w : World} {B : Nat} {c : Ck} (h : Bx w B c) : w.cell? ⟨B, 1, none⟩ = some (.int .u8 c.flags) := bx_cell h (cc_1 c)
theorem cc_2 (c : Ck) : (cc c)[2]? = some (.int .u32 c.tsn) := rfl
theorem Bx.c2 {w : World} {B : Nat} {c : Ck} (h : Bx w B c) : w.cell? ⟨B, 2, none⟩ = some (.int .u32 c.tsn) := bx_cell h (cc_2 c)
theorem cc_3 (c : Ck) : (cc c)[3]? = some (.int .u16 c.stream) := rfl
theorem Bx.c3 {w : World} {B : Nat} {c : Ck} (h : Bx w B c) : w.cell? ⟨B, 3, none⟩ = some (.int .u16 c.stream) := bx_cell h (cc_3 c)
theorem cc_4 (c : Ck) : (cc c)[4]? = some (.int .u16 c.ssn) := rfl
theorem Bx.c4 {w : World} {B : Nat} {c : Ck} (h : Bx w B c) : w.cell? ⟨B, 4, none⟩ = some (.int .u16 c.ssn) := bx_cell h (cc_4 c)
theorem cc_5 (c : Ck) : (cc c)[5]? = some (.int .u32 c.proto) := rfl
theorem Bx.c5 {w : World} {B : Nat} {c : Ck} (h : Bx w B c) : w.cell? ⟨B, 5, none⟩ = some (.int .u32 c.proto) := bx_cell h (cc_5 c)
theorem cc_6 (c : Ck) : (cc c)[6]? = some (.int .u32 c.tag) := rfl
theorem Bx.c6 {w : World} {B : Nat} {c : Ck} (h : Bx w B c) : w.cell? ⟨B, 6, none⟩ = some (.int .u32 c.tag) := bx_cell h (cc_6 c)
theorem cc_7 (c : Ck) : (cc c)[7]? = some (.int .u32 c.win) := rfl
theorem Bx.c7 {w : World} {B : Nat} {c : Ck} (h : Bx w B c) : w.cell? ⟨B, 7, none⟩ = some (.int .u32 c.win) := bx_cell h (cc_7 c)
theorem cc_8 (c : Ck) : (cc c)[8]? = some (.int .u16 c.out) := rfl
theorem Bx.c8 {w : World} {B : Nat} {c : Ck} (h : Bx w B c) : w.cell? ⟨B, 8, none⟩ = some (.int .u16 c.out) := bx_cell h (cc_8 c)
theorem cc_9 (c : Ck) : (cc c)[9]? = some (.int .u16 c.inn) := rfl
theorem Bx.c9 {w : World} {B : Nat} {c : Ck} (h : Bx w B c) : w.cell? ⟨B, 9, none⟩ = some (.int .u16 c.inn) := bx_cell h (cc_9 c)
theorem cc_10 (c : Ck) : (cc c)[10]? = some (.slice c.ga c.gl c.gc) := rfl
theorem Bx.c10 {w : World} {B : Nat} {c : Ck} (h : Bx w B c) : w.cell? ⟨B, 10, none⟩ = some (.slice c.ga c.gl c.gc) := bx_cell h (cc_10 c)
theorem cc_11 (c : Ck) : (cc c)[11]? = some (.slice c.na c.nl c.nc) := rfl
theorem Bx.c11 {w : World} {B : Nat} {c : Ck} (h : Bx w B c) : w.cell? ⟨B, 11, none⟩ = some (.slice c.na c.nl c.nc) := bx_cell h (cc_11 c)
theorem cc_12 (c : Ck) : (cc c)[12]? = some (.slice c.da c.dl c.dc) := rfl
theorem Bx.c12 {w : World} {B : Nat} {c : Ck} (h : Bx w B c) : w.cell? ⟨B, 12, none⟩ = some (.slice c.da c.dl c.dc) := bx_cell h (cc_12 c)
theorem cc_13 (c : Ck) : (cc c)[13]? = some (.slice c.ba c.bl c.bc) := rfl
theorem Bx.c13 {w : World} {B : Nat} {c : Ck} (h : Bx w B c) : w.cell? ⟨B, 13, none⟩ = some (.slice c.ba c.bl c.bc) := bx_cell h (cc_13 c)
theorem cc_14 (c : Ck) : (cc c)[14]? = some (.slice c.pa c.pl c.pc) := rfl
theorem Bx.c14 {w : World} {B : Nat} {c : Ck} (h : Bx w B c) : w.cell? ⟨B, 14, none⟩ = some (.slice c.pa c.pl c.pc) := bx_cell h (cc_14 c)
theorem Bx.s0 {w : World} {B : Nat} {c : Ck} (h : Bx w B c) (x : Int) : Bx (w.setCell ⟨B, 0, none⟩ (.int .u8 x)) B { c with kind := x } := heap_set w B 0 _ h
theorem Bx.s1 {w : World} {B : Nat} {c : Ck} (h : Bx w B c) (x : Int) : Bx (w.setCell ⟨B, 1, none⟩ (.int .u8 x)) B { c with flags := x } := heap_set w B 1 _ h
theorem Bx.s2 {w : World} {B : Nat} {c : Ck} (h : Bx w B c) (x : Int) : Bx (w.setCell ⟨B, 2, none⟩ (.int .u32 x)) B { c with tsn := x } := heap_set w B 2 _ h
theorem Bx.s3 {w : World} {B : Nat} {c : Ck} (h : Bx w B c) (x : Int) : Bx (w.setCell ⟨B, 3, none⟩ (.int .u16 x)) B { c with stream := x } := heap_set w B 3 _ h
theorem Bx.s4 {w : World} {B : Nat} {c : Ck} (h : Bx w B c) (x : Int) : Bx (w.setCell ⟨B, 4, none⟩ (.int .u16 x)) B { c with ssn := x } := heap_set w B 4 _ h
theorem Bx.s5 {w : World} {B : Nat} {c : Ck} (h : Bx w B c) (x : Int) : Bx (w.setCell ⟨B, 5, none⟩ (.int .u32 x)) B { c with proto := x } := heap_set w B 5 _ h
theorem Bx.s6 {w : World} {B : Nat} {c : Ck} (h : Bx w B c) (x : Int) : Bx (w.setCell ⟨B, 6, none⟩ (.int .u32 x)) B { c with tag := x } := heap_set w B 6 _ h
theorem Bx.s7 {w : World} {B : Nat} {c : Ck} (h : Bx w B c) (x : Int) : Bx (w.setCell ⟨B, 7, none⟩ (.int .u32 x)) B { c with win := x } := heap_set w B 7 _ h
theorem Bx.s8 {w : World} {B : Nat} {c : Ck} (h : Bx w B c) (x : Int) : Bx (w.setCell ⟨B, 8, none⟩ (.int .u16 x)) B { c with out := x } := heap_set w B 8 _ h
theorem Bx.s9 {w : World} {B : Nat} {c : Ck} (h : Bx w B c) (x : Int) : Bx (w.setCell ⟨B, 9, none⟩ (.int .u16 x)) B { c with inn := x } := heap_set w B 9 _ h
theorem Bx.s10 {w : World} {B : Nat} {c : Ck} (h : Bx w B c) (a : Option Addr) (l k : Nat) (xs : List (Int × Int)) : Bx (w.setCell ⟨B, 10, none⟩ (.slice a l k)) B { c with ga := a, gl := l, gc := k, gs := xs } := heap_set w B 10 _ h
theorem Bx.s11 {w : World} {B : Nat} {c : Ck} (h : Bx w B c) (a : Option Addr) (l k : Nat) (xs : List (Int × Int)) : Bx (w.setCell ⟨B, 11, none⟩ (.slice a l k)) B { c with na := a, nl := l, nc := k, ns := xs } := heap_set w B 11 _ h
theorem Bx.s12 {w : World} {B : Nat} {c : Ck} (h : Bx w B c) (a : Option Addr) (l k : Nat) (xs : List Int) : Bx (w.setCell ⟨B, 12, none⟩ (.slice a l k)) B { c with da := a, dl := l, dc := k, ds := xs } := heap_set w B 12 _ h
theorem Bx.s13 {w : World} {B : Nat} {c : Ck} (h : Bx w B c) (a : Option Addr) (l k : Nat) (xs : List Int) : Bx (w.setCell ⟨B, 13, none⟩ (.slice a l k)) B { c with ba := a, bl := l, bc := k, bs := xs } := heap_set w B 13 _ h
theorem Bx.s14 {w : World} {B : Nat} {c : Ck} (h : Bx w B c) (a : Option Addr) (l k : Nat) (xs : List Prm) : Bx (w.setCell ⟨B, 14, none⟩ (.slice a l k)) B { c with pa := a, pl := l, pc := k, ps := xs } := heap_set w B 14 _ h
attribute [local go_sem ↓] execOp_ld execOp_bx execOp_st
attribute [local go_sem] run_box cc_0 cc_1 cc_2 cc_3 cc_4 cc_5 cc_6 cc_7 cc_8 cc_9 cc_10 cc_11 cc_12 cc_13 cc_14

theorem beq_t {x y : Int} (h : x = y) : (x == y) = true := by simpa using h
theorem beq_f {x y : Int} (h : ¬ x = y) : (x == y) = false := by simpa using h
theorem bne_t {x y : Int} (h : ¬ x = y) : (x != y) = true := by simpa using h
theorem bne_f {x y : Int} (h : x = y) : (x != y) = false := by simpa using h
theorem ret_bool {t : Bool} {p : Prop} {w w' : World} (h : t = true ↔ p) (hb : Below w.heap.size w w') : ∃ t' : Bool, Ending.returned (.bool t) = .returned (.bool t') ∧ (t' = true ↔ p) ∧ Below w.heap.size w w' := ⟨t, rfl, h, hb⟩
/-- the numbers are alike -/
def NumEq (c d : Ck) : Prop := c.kind = d.kind ∧ c.flags = d.flags ∧ c.tsn = d.tsn ∧ c.stream = d.stream ∧ c.ssn = d.ssn ∧ c.proto = d.proto ∧ c.tag = d.tag ∧ c.win = d.win ∧ c.out = d.out ∧ c.inn = d.inn
set_option maxRecDepth 20000 in
theorem fa0 (w : World) (B : Nat) : (Instr.fieldAt 59 (.pointer (some ⟨B, 0, none⟩)) 0).run Tryz.prog w = .ok (.pointer (some ⟨B, 0, none⟩)) w := by simp [go_sem]
set_option maxRecDepth 20000 in
theorem fa1 (w : World) (B : Nat) : (Instr.fieldAt 59 (.pointer (some ⟨B, 0, none⟩)) 1).run Tryz.prog w = .ok (.pointer (some ⟨B, 1, none⟩)) w := by simp [go_sem]
set_option maxRecDepth 20000 in
theorem fa2 (w : World) (B : Nat) : (Instr.fieldAt 59 (.pointer (some ⟨B, 0, none⟩)) 2).run Tryz.prog w = .ok (.pointer (some ⟨B, 2, none⟩)) w := by simp [go_sem]
set_option maxRecDepth 20000 in
theorem fa3 (w : World) (B : Nat) : (Instr.fieldAt 59 (.pointer (some ⟨B, 0, none⟩)) 3).run Tryz.prog w = .ok (.pointer (some ⟨B, 3, none⟩)) w := by simp [go_sem]
set_option maxRecDepth 20000 in
theorem fa4 (w : World) (B : Nat) : (Instr.fieldAt 59 (.pointer (some ⟨B, 0, none⟩)) 4).run Tryz.prog w = .ok (.pointer (some ⟨B, 4, none⟩)) w := by simp [go_sem]
set_option maxRecDepth 20000 in
theorem fa5 (w : World) (B : Nat) : (Instr.fieldAt 59 (.pointer (some ⟨B, 0, none⟩)) 5).run Tryz.prog w = .ok (.pointer (some ⟨B, 5, none⟩)) w := by simp [go_sem]
set_option maxRecDepth 20000 in
theorem fa6 (w : World) (B : Nat) : (Instr.fieldAt 59 (.pointer (some ⟨B, 0, none⟩)) 6).run Tryz.prog w = .ok (.pointer (some ⟨B, 6, none⟩)) w := by simp [go_sem]
set_option maxRecDepth 20000 in
theorem fa7 (w : World) (B : Nat) : (Instr.fieldAt 59 (.pointer (some ⟨B, 0, none⟩)) 7).run Tryz.prog w = .ok (.pointer (some ⟨B, 7, none⟩)) w := by simp [go_sem]
set_option maxRecDepth 20000 in
theorem fa8 (w : World) (B : Nat) : (Instr.fieldAt 59 (.pointer (some ⟨B, 0, none⟩)) 8).run Tryz.prog w = .ok (.pointer (some ⟨B, 8, none⟩)) w := by simp [go_sem]
set_option maxRecDepth 20000 in
theorem fa9 (w : World) (B : Nat) : (Instr.fieldAt 59 (.pointer (some ⟨B, 0, none⟩)) 9).run Tryz.prog w = .ok (.pointer (some ⟨B, 9, none⟩)) w := by simp [go_sem]
set_option maxRecDepth 20000 in
theorem fa10 (w : World) (B : Nat) : (Instr.fieldAt 59 (.pointer (some ⟨B, 0, none⟩)) 10).run Tryz.prog w = .ok (.pointer (some ⟨B, 10, none⟩)) w := by simp [go_sem]
set_option maxRecDepth 20000 in
theorem fa11 (w : World) (B : Nat) : (Instr.fieldAt 59 (.pointer (some ⟨B, 0, none⟩)) 11).run Tryz.prog w = .ok (.pointer (some ⟨B, 11, none⟩)) w := by simp [go_sem]
set_option maxRecDepth 20000 in
theorem fa12 (w : World) (B : Nat) : (Instr.fieldAt 59 (.pointer (some ⟨B, 0, none⟩)) 12).run Tryz.prog w = .ok (.pointer (some ⟨B, 12, none⟩)) w := by simp [go_sem]
set_option maxRecDepth 20000 in
theorem fa13 (w : World) (B : Nat) : (Instr.fieldAt 59 (.pointer (some ⟨B, 0, none⟩)) 13).run Tryz.prog w = .ok (.pointer (some ⟨B, 13, none⟩)) w := by simp [go_sem]
set_option maxRecDepth 20000 in
theorem fa14 (w : World) (B : Nat) : (Instr.fieldAt 59 (.pointer (some ⟨B, 0, none⟩)) 14).run Tryz.prog w = .ok (.pointer (some ⟨B, 14, none⟩)) w := by simp [go_sem]
theorem ldK (w : World) (a : Addr) (v : Int) (h : w.cell? a = some (.int .u8 v)) : (Instr.loadAt 33 (.pointer (some a))).run Tryz.prog w = .ok (.int .u8 v) w := by simp [go_sem, h]
theorem eqK (w : World) (X Y : Operand) (x y : Int) : (do eqGuard .eql 33 X Y (.int .u8 x) (.int .u8 y); binOp .eql 33 (.int .u8 x) (.int .u8 y)).run Tryz.prog w = .ok (.bool (x == y)) w := by simp [go_sem]
theorem neK (w : World) (X Y : Operand) (x y : Int) : (do eqGuard .neq 33 X Y (.int .u8 x) (.int .u8 y); binOp .neq 33 (.int .u8 x) (.int .u8 y)).run Tryz.prog w = .ok (.bool (x != y)) w := by simp [go_sem]
theorem ld8 (w : World) (a : Addr) (v : Int) (h : w.cell? a = some (.int .u8 v)) : (Instr.loadAt 5 (.pointer (some a))).run Tryz.prog w = .ok (.int .u8 v) w := by simp [go_sem, h]
theorem eq8 (w : World) (X Y : Operand) (x y : Int) : (do eqGuard .eql 5 X Y (.int .u8 x) (.int .u8 y); binOp .eql 5 (.int .u8 x) (.int .u8 y)).run Tryz.prog w = .ok (.bool (x == y)) w := by simp [go_sem]
theorem ne8 (w : World) (X Y : Operand) (x y : Int) : (do eqGuard .neq 5 X Y (.int .u8 x) (.int .u8 y); binOp .neq 5 (.int .u8 x) (.int .u8 y)).run Tryz.prog w = .ok (.bool (x != y)) w := by simp [go_sem]
theorem ld16 (w : World) (a : Addr) (v : Int) (h : w.cell? a = some (.int .u16 v)) : (Instr.loadAt 22 (.pointer (some a))).run Tryz.prog w = .ok (.int .u16 v) w := by simp [go_sem, h]
theorem eq16 (w : World) (X Y : Operand) (x y : Int) : (do eqGuard .eql 22 X Y (.int .u16 x) (.int .u16 y); binOp .eql 22 (.int .u16 x) (.int .u16 y)).run Tryz.prog w = .ok (.bool (x == y)) w := by simp [go_sem]
theorem ne16 (w : World) (X Y : Operand) (x y : Int) : (do eqGuard .neq 22 X Y (.int .u16 x) (.int .u16 y); binOp .neq 22 (.int .u16 x) (.int .u16 y)).run Tryz.prog w = .ok (.bool (x != y)) w := by simp [go_sem]
theorem ld32 (w : World) (a : Addr) (v : Int) (h : w.cell? a = some (.int .u32 v)) : (Instr.loadAt 23 (.pointer (some a))).run Tryz.prog w = .ok (.int .u32 v) w := by simp [go_sem, h]
theorem eq32 (w : World) (X Y : Operand) (x y : Int) : (do eqGuard .eql 23 X Y (.int .u32 x) (.int .u32 y); binOp .eql 23 (.int .u32 x) (.int .u32 y)).run Tryz.prog w = .ok (.bool (x == y)) w := by simp [go_sem]
theorem ne32 (w : World) (X Y : Operand) (x y : Int) : (do eqGuard .neq 23 X Y (.int .u32 x) (.int .u32 y); binOp .neq 23 (.int .u32 x) (.int .u32 y)).run Tryz.prog w = .ok (.bool (x != y)) w := by simp [go_sem]
theorem sameNumbers (c d : Ck) (w : World) : Calls Tryz.prog 64 #[cv c, cv d] w fun e w' => ∃ t : Bool, e = .returned (.bool t) ∧ (t = true ↔ NumEq c d) ∧ Below w.heap.size w w' := by
  have hb := (below_box w c).trans ((below_box (w.alloc (.cells (cc c) 59)) d).mono (by simp))
  have b1 := (Bx.new w c).alloc (.cells (cc d) 59)
  have b2 := Bx.new (w.alloc (.cells (cc c) 59)) d
  simp only [World.size_alloc] at b2
  go_enter Tryz.func64, Tryz.ntmps64
  go_upto_region 1 with fail
  generalize (w.alloc (.cells (cc c) 59)).alloc (.cells (cc d) 59) = W at *
  refine wp_region_lit ?_
  refine Ord.first_eq (N := 73) (T := 33) (κ := .u8) (fun B => fa0 _ B) (fun B v h => ldK _ _ v h) (fun X Y => eqK _ X Y _ _) b1.c0 b2.c0 (by exact ⟨rfl, rfl, fun p hp => by simp only [List.mem_cons, List.not_mem_nil, or_false] at hp; rcases hp with rfl | rfl <;> rfl⟩) rfl rfl rfl rfl rfl rfl rfl rfl rfl rfl rfl rfl rfl rfl rfl rfl rfl rfl rfl rfl fun a1 hF1 => ?_
  refine Ord.st_move hF1 (.inl rfl) rfl rfl rfl fun a2 hF2 => ?_
  refine Ord.link_and (T := 5) (κ := .u8) (fun B => fa1 _ B) (fun B v h => ld8 _ _ v h) (fun X Y => eq8 _ X Y _ _) b1.c1 b2.c1 hF2 rfl rfl rfl rfl rfl rfl rfl rfl rfl rfl rfl rfl rfl rfl rfl rfl rfl rfl rfl (by decide) rfl rfl rfl rfl rfl rfl fun a3 hF3 => ?_
  refine Ord.st_move hF3 (.inl rfl) rfl rfl rfl fun a4 hF4 => ?_
  refine Ord.link_and (T := 23) (κ := .u32) (fun B => fa2 _ B) (fun B v h => ld32 _ _ v h) (fun X Y => eq32 _ X Y _ _) b1.c2 b2.c2 hF4 rfl rfl rfl rfl rfl rfl rfl rfl rfl rfl rfl rfl rfl rfl rfl rfl rfl rfl rfl (by decide) rfl rfl rfl rfl rfl rfl fun a5 hF5 => ?_
  refine Ord.st_move hF5 (.inl rfl) rfl rfl rfl fun a6 hF6 => ?_
  refine Ord.link_and (T := 22) (κ := .u16) (fun B => fa3 _ B) (fun B v h => ld16 _ _ v h) (fun X Y => eq16 _ X Y _ _) b1.c3 b2.c3 hF6 rfl rfl rfl rfl rfl rfl rfl rfl rfl rfl rfl rfl rfl rfl rfl rfl rfl rfl rfl (by decide) rfl rfl rfl rfl rfl rfl fun a7 hF7 => ?_
  refine Ord.st_move hF7 (.inl rfl) rfl rfl rfl fun a8 hF8 => ?_
  refine Ord.link_and (T := 22) (κ := .u16) (fun B => fa4 _ B) (fun B v h => ld16 _ _ v h) (fun X Y => eq16 _ X Y _ _) b1.c4 b2.c4 hF8 rfl rfl rfl rfl rfl rfl rfl rfl rfl rfl rfl rfl rfl rfl rfl rfl rfl rfl rfl (by decide) rfl rfl rfl rfl rfl rfl fun a9 hF9 => ?_
  refine Ord.st_move hF9 (.inl rfl) rfl rfl rfl fun a10 hF10 => ?_
  refine Ord.link_and (T := 23) (κ := .u32) (fun B => fa5 _ B) (fun B v h => ld32 _ _ v h) (fun X Y => eq32 _ X Y _ _) b1.c5 b2.c5 hF10 rfl rfl rfl rfl rfl rfl rfl rfl rfl rfl rfl rfl rfl rfl rfl rfl rfl rfl rfl (by decide) rfl rfl rfl rfl rfl rfl fun a11 hF11 => ?_
  refine Ord.st_move hF11 (.inl rfl) rfl rfl rfl fun a12 hF12 => ?_
  refine Ord.link_and (T := 23) (κ := .u32) (fun B => fa6 _ B) (fun B v h => ld32 _ _ v h) (fun X Y => eq32 _ X Y _ _) b1.c6 b2.c6 hF12 rfl rfl rfl rfl rfl rfl rfl rfl rfl rfl rfl rfl rfl rfl rfl rfl rfl rfl rfl (by decide) rfl rfl rfl rfl rfl rfl fun a13 hF13 => ?_
  refine Ord.st_move hF13 (.inl rfl) rfl rfl rfl fun a14 hF14 => ?_
  refine Ord.link_and (T := 23) (κ := .u32) (fun B => fa7 _ B) (fun B v h => ld32 _ _ v h) (fun X Y => eq32 _ X Y _ _) b1.c7 b2.c7 hF14 rfl rfl rfl rfl rfl rfl rfl rfl rfl rfl rfl rfl rfl rfl rfl rfl rfl rfl rfl (by decide) rfl rfl rfl rfl rfl rfl fun a15 hF15 => ?_
  refine Ord.st_move hF15 (.inl rfl) rfl rfl rfl fun a16 hF16 => ?_
  refine Ord.link_and (T := 22) (κ := .u16) (fun B => fa8 _ B) (fun B v h => ld16 _ _ v h) (fun X Y => eq16 _ X Y _ _) b1.c8 b2.c8 hF16 rfl rfl rfl rfl rfl rfl rfl rfl rfl rfl rfl rfl rfl rfl rfl rfl rfl rfl rfl (by decide) rfl rfl rfl rfl rfl rfl fun a17 hF17 => ?_
  refine Ord.st_move hF17 (.inl rfl) rfl rfl rfl fun a18 hF18 => ?_
  refine Ord.link_and (T := 22) (κ := .u16) (fun B => fa9 _ B) (fun B v h => ld16 _ _ v h) (fun X Y => eq16 _ X Y _ _) b1.c9 b2.c9 hF18 rfl rfl rfl rfl rfl rfl rfl rfl rfl rfl rfl rfl rfl rfl rfl rfl rfl rfl rfl (by decide) rfl rfl rfl rfl rfl rfl fun a19 hF19 => ?_
  refine Ord.st_move hF19 (.inr rfl) rfl rfl rfl fun a20 hF20 => ?_
  refine wpList_nil ?_
  rename_i hKK
  refine hKK _ _ (wp_ret ?_)
  have h4 := hF20.at0
  obtain ⟨t, h4', ht⟩ : ∃ t, a20.tmps[4]?.getD undef = .bool t ∧ (t = true ↔ NumEq c d) := ⟨_, by simpa [Act.eval] using h4, by simp [NumEq, and_assoc]⟩
  refine bodyPost_ret (v := .bool t) ?_ hF20.2.1 ⟨t, rfl, ht, hb⟩
  simp [results, Tryz.results64, go_sem, h4']
end Go.Proofs.YtmnndkhdekpecaaGreatDoor.Chu
namespace Go.Proofs.YtmnndkhdekpecaaGreatDoor.Chu
open Go.ChangeShapes Go.WideShapes Go.ChangeAt Go.RowKit
open Par (hidden Bytes Row Prm Prms cell_lt)
set_option linter.unusedVariables false
attribute [local go_sem ↓] execOp_ld execOp_bx execOp_st
attribute [local go_sem] run_box cc_0 cc_1 cc_2 cc_3 cc_4 cc_5 cc_6 cc_7 cc_8 cc_9 cc_10 cc_11 cc_12 cc_13 cc_14

theorem take_step {α : Type} {xs ys : List α} {k : Nat} {x y : α} (hx : xs[k]? = some x) (hy : ys[k]? = some y) (h : xs.take k = ys.take k) (e : x = y) : xs.take (k + 1) = ys.take (k + 1) := by
  rw [List.take_add_one, List.take_add_one, hx, hy, h, e]
theorem take_at {α : Type} {xs ys : List α} {k : Nat} {x y : α} (hx : xs[k]? = some x) (hy : ys[k]? = some y) (h : xs = ys) : x = y := by
  subst h
  rw [hx] at hy
  exact Option.some.inj hy
set_option maxRecDepth 20000 in
theorem equalG (base base' : Nat) (w : World) (a a' : Option Addr) (n m cap cap' : Nat) (gs hs : List (Int × Int)) (hp : Gaps base w a n gs) (hq : Gaps base' w a' m hs) :
    Calls Tryz.prog 65 #[.slice a n cap, .slice a' m cap'] w fun e w' => ∃ t : Bool, e = .returned (.bool t) ∧ (t = true ↔ gs = hs) ∧ Below w.heap.size w w' := by
  have HP := hidden hp
  have HQ := hidden hq
  have hpl := hp.1
  have hql := hq.1
  have hnl := hp.2.1
  have hml := hq.2.1
  clear hp hq
  by_cases hm : n = m
  · subst hm
    go_enter Tryz.func65, Tryz.ntmps65
    go_wp2_with fail
    go_loopw [13] (fun i wr => ∃ k : Nat, k ≤ n ∧ i = .int .i64 k ∧ gs.take k = hs.take k ∧ Below w.heap.size w wr) (fun i _ => n - (intOf i).toNat)
    case atStart => exact ⟨0, Nat.zero_le _, rfl, rfl, Below.refl _ _⟩
    case round =>
      obtain ⟨k, hk, rfl, hsame, hbl⟩ := hrel
      rcases Nat.lt_or_ge k n with hlt | hge
      · obtain ⟨b, off, s, e, rfl, hpk, hc1, hc2, _, _⟩ := (HP.out.later hbl).get hlt
        obtain ⟨b', off', s', e', rfl, hqk, hd1, hd2, _, _⟩ := (HQ.out.later hbl).get hlt
        have HPK := hidden hpk
        have HQK := hidden hqk
        have HSA := hidden hsame
        have HB := hidden hbl
        clear hpk hqk hsame hbl
        by_cases h1 : s = s'
        · subst h1
          by_cases h2 : e = e'
          · subst h2
            go_wp2
            go_quiet (fail)
            have B2 : Below w.heap.size w (wr.drewN nq) := Par.below_drewN HB.out nq
            go_wp2
            go_roundw
            case rel => exact ⟨k + 1, by omega, by go_num, take_step HPK.out HQK.out HSA.out rfl, B2⟩
            case measure => simp [intOf]; omega
          · go_wp2
            go_quiet (fail)
            have B2 : Below w.heap.size w (wr.drewN nq) := Par.below_drewN HB.out nq
            go_wp2
            go_ret
            exact ⟨false, rfl, ⟨fun h => (by cases h), fun h => absurd (take_at HPK.out HQK.out h) (by simp [h2])⟩, B2⟩
        · go_wp2
          go_quiet (fail)
          have B2 : Below w.heap.size w (wr.drewN nq) := Par.below_drewN HB.out nq
          go_wp2
          go_ret
          exact ⟨false, rfl, ⟨fun h => (by cases h), fun h => absurd (take_at HPK.out HQK.out h) (by simp [h1])⟩, B2⟩
      · obtain rfl : n = k := by omega
        rw [List.take_of_length_le (by omega), List.take_of_length_le (by omega)] at hsame
        have HSA := hidden hsame
        clear hsame
        go_wp2
        go_ret
        exact ⟨true, rfl, ⟨fun _ => HSA.out, fun _ => rfl⟩, hbl⟩
  · have hne : ¬ (n : Int) = (m : Int) := by omega
    go_enter Tryz.func65, Tryz.ntmps65
    go_wp2
    go_ret
    refine ⟨false, rfl, ⟨fun h => (by cases h), fun h => ?_⟩, Below.refl _ _⟩
    have := congrArg List.length h
    omega
theorem equalD (base base' : Nat) (w : World) (a a' : Option Addr) (n m cap cap' : Nat) (gs hs : List Int) (hp : Fours base w a n gs) (hq : Fours base' w a' m hs) :
    Calls Tryz.prog 66 #[.slice a n cap, .slice a' m cap'] w fun e w' => ∃ t : Bool, e = .returned (.bool t) ∧ (t = true ↔ gs = hs) ∧ Below w.heap.size w w' := by
  have HP := hidden hp
  have HQ := hidden hq
  have hpl := hp.1
  have hql := hq.1
  have hnl := hp.2.1
  have hml := hq.2.1
  clear hp hq
  by_cases hm : n = m
  · subst hm
    go_enter Tryz.func66, Tryz.ntmps66
    go_wp2_with fail
    go_loopw [13] (fun i wr => ∃ k : Nat, k ≤ n ∧ i = .int .i64 k ∧ gs.take k = hs.take k ∧ Below w.heap.size w wr) (fun i _ => n - (intOf i).toNat)
    case atStart => exact ⟨0, Nat.zero_le _, rfl, rfl, Below.refl _ _⟩
    case round =>
      obtain ⟨k, hk, rfl, hsame, hbl⟩ := hrel
      rcases Nat.lt_or_ge k n with hlt | hge
      · obtain ⟨b, off, s, rfl, hpk, hc1, _⟩ := (HP.out.later hbl).get hlt
        obtain ⟨b', off', s', rfl, hqk, hd1, _⟩ := (HQ.out.later hbl).get hlt
        have HPK := hidden hpk
        have HQK := hidden hqk
        have HSA := hidden hsame
        have HB := hidden hbl
        clear hpk hqk hsame hbl
        by_cases h1 : s = s'
        · subst h1
          go_wp2
          go_quiet (fail)
          have B2 : Below w.heap.size w (wr.drewN nq) := Par.below_drewN HB.out nq
          go_wp2
          go_roundw
          case rel => exact ⟨k + 1, by omega, by go_num, take_step HPK.out HQK.out HSA.out rfl, B2⟩
          case measure => simp [intOf]; omega
        · have h2 := bne_t h1
          go_wp2
          go_quiet (fail)
          have B2 : Below w.heap.size w (wr.drewN nq) := Par.below_drewN HB.out nq
          go_wp2
          go_ret
          exact ⟨false, rfl, ⟨fun h => (by cases h), fun h => absurd (take_at HPK.out HQK.out h) (by simp [h1])⟩, B2⟩
      · obtain rfl : n = k := by omega
        rw [List.take_of_length_le (by omega), List.take_of_length_le (by omega)] at hsame
        have HSA := hidden hsame
        clear hsame
        go_wp2
        go_ret
        exact ⟨true, rfl, ⟨fun _ => HSA.out, fun _ => rfl⟩, hbl⟩
  · have hne : ¬ (n : Int) = (m : Int) := by omega
    go_enter Tryz.func66, Tryz.ntmps66
    go_wp2
    go_ret
    refine ⟨false, rfl, ⟨fun h => (by cases h), fun h => ?_⟩, Below.refl _ _⟩
    have := congrArg List.length h
    omega
/-- alike: what they say is the same -/
theorem val_iff (c d : Ck) : val c = val d ↔ NumEq c d ∧ c.gs = d.gs ∧ c.ns = d.ns ∧ c.ds = d.ds ∧ c.bs = d.bs ∧ c.ps.map Par.val = d.ps.map Par.val := by
  simp [val, NumEq, and_assoc]
theorem same (base base' : Nat) (w : World) (c d : Ck) (hc : Lsts base w c) (hd : Lsts base' w d) :
    Calls Tryz.prog 40 #[cv c, cv d] w fun e w' => ∃ t : Bool, e = .returned (.bool t) ∧ (t = true ↔ val c = val d) ∧ Below w.heap.size w w' := by
  have hb := (below_box w c).trans ((below_box (w.alloc (.cells (cc c) 59)) d).mono (by simp))
  have b1 := (Bx.new w c).alloc (.cells (cc d) 59)
  have b2 := Bx.new (w.alloc (.cells (cc c) 59)) d
  simp only [World.size_alloc] at b2
  have HC := hidden hc
  have HD := hidden hd
  have l1 := b1.ld
  have l2 := b2.ld
  have H1 := hidden b1
  have H2 := hidden b2
  have HB := hidden hb
  have HV := hidden (val_iff c d)
  clear hb b1 b2 hc hd
  go_enter Tryz.func40, Tryz.ntmps40
  go_wp2_with fail
  generalize (w.alloc (.cells (cc c) 59)).alloc (.cells (cc d) 59) = W at *
  generalize w.heap.size + 1 = B2 at *
  clear l1 l2
  refine Calls.mono (sameNumbers c d _) ?_
  rintro e w1 ⟨t, rfl, ht, b1⟩
  have HB0 := hidden (HB.out.trans (b1.mono HB.out.size))
  have H10 := hidden (H1.out.later b1)
  have H20 := hidden (H2.out.later b1)
  have T0 := hidden ht
  clear ht b1 HB H1 H2
  rename Hid (Below w.heap.size w w1) => HB
  rename Hid (Bx w1 w.heap.size c) => H1
  rename Hid (Bx w1 B2 d) => H2
  rcases t with _ | _
  · go_wp2
    go_ret
    exact ⟨false, rfl, ⟨fun h => (by cases h), fun h => by have h := HV.out.1 h; exact T0.out.2 h.1⟩, HB.out⟩
  have P0 := hidden (T0.out.1 rfl)
  clear T0
  have K1 := H1.out.c10
  have K2 := H2.out.c10
  go_wp2_with fail
  refine Calls.mono (equalG base base' _ _ _ _ _ _ _ _ _ (HC.out.later HB.out).1 (HD.out.later HB.out).1) ?_
  rintro e w1 ⟨t, rfl, ht, b1⟩
  have HB0 := hidden (HB.out.trans (b1.mono HB.out.size))
  have H10 := hidden (H1.out.later b1)
  have H20 := hidden (H2.out.later b1)
  have T1 := hidden ht
  clear ht b1 HB H1 H2 K1 K2
  rename Hid (Below w.heap.size w w1) => HB
  rename Hid (Bx w1 w.heap.size c) => H1
  rename Hid (Bx w1 B2 d) => H2
  rcases t with _ | _
  · go_wp2
    go_ret
    exact ⟨false, rfl, ⟨fun h => (by cases h), fun h => by have h := HV.out.1 h; exact T1.out.2 h.2.1⟩, HB.out⟩
  have P1 := hidden (T1.out.1 rfl)
  clear T1
  have K1 := H1.out.c11
  have K2 := H2.out.c11
  go_wp2_with fail
  refine Calls.mono (equalG base base' _ _ _ _ _ _ _ _ _ (HC.out.later HB.out).2.1 (HD.out.later HB.out).2.1) ?_
  rintro e w1 ⟨t, rfl, ht, b1⟩
  have HB0 := hidden (HB.out.trans (b1.mono HB.out.size))
  have H10 := hidden (H1.out.later b1)
  have H20 := hidden (H2.out.later b1)
  have T2 := hidden ht
  clear ht b1 HB H1 H2 K1 K2
  rename Hid (Below w.heap.size w w1) => HB
  rename Hid (Bx w1 w.heap.size c) => H1
  rename Hid (Bx w1 B2 d) => H2
  rcases t with _ | _
  · go_wp2
    go_ret
    exact ⟨false, rfl, ⟨fun h => (by cases h), fun h => by have h := HV.out.1 h; exact T2.out.2 h.2.2.1⟩, HB.out⟩
  have P2 := hidden (T2.out.1 rfl)
  clear T2
  have K1 := H1.out.c12
  have K2 := H2.out.c12
  go_wp2_with fail
  refine Calls.mono (equalD base base' _ _ _ _ _ _ _ _ _ (HC.out.later HB.out).2.2.1 (HD.out.later HB.out).2.2.1) ?_
  rintro e w1 ⟨t, rfl, ht, b1⟩
  have HB0 := hidden (HB.out.trans (b1.mono HB.out.size))
  have H10 := hidden (H1.out.later b1)
  have H20 := hidden (H2.out.later b1)
  have T3 := hidden ht
  clear ht b1 HB H1 H2 K1 K2
  rename Hid (Below w.heap.size w w1) => HB
  rename Hid (Bx w1 w.heap.size c) => H1
  rename Hid (Bx w1 B2 d) => H2
  rcases t with _ | _
  · go_wp2
    go_ret
    exact ⟨false, rfl, ⟨fun h => (by cases h), fun h => by have h := HV.out.1 h; exact T3.out.2 h.2.2.2.1⟩, HB.out⟩
  have P3 := hidden (T3.out.1 rfl)
  clear T3
  have K1 := H1.out.c13
  have K2 := H2.out.c13
  go_wp2_with fail
  refine Calls.mono (Par.equal base base' _ _ _ _ _ _ _ _ _ (HC.out.later HB.out).2.2.2.1 (HD.out.later HB.out).2.2.2.1) ?_
  rintro e w1 ⟨t, rfl, ht, rfl⟩
  have T4 := hidden ht
  clear ht K1 K2
  rcases t with _ | _
  · go_wp2
    go_ret
    exact ⟨false, rfl, ⟨fun h => (by cases h), fun h => by have h := HV.out.1 h; exact T4.out.2 h.2.2.2.2.1⟩, HB.out⟩
  have P4 := hidden (T4.out.1 rfl)
  clear T4
  have K1 := H1.out.c14
  have K2 := H2.out.c14
  go_wp2_with fail
  refine Calls.mono (Par.same base base' _ _ _ _ _ _ _ _ _ (HC.out.later HB.out).2.2.2.2.2 (HD.out.later HB.out).2.2.2.2.2) ?_
  rintro e w1 ⟨t, rfl, ht, b1⟩
  have HB0 := hidden (HB.out.trans (b1.mono HB.out.size))
  have H10 := hidden (H1.out.later b1)
  have H20 := hidden (H2.out.later b1)
  have T5 := hidden ht
  clear ht b1 HB H1 H2 K1 K2
  rename Hid (Below w.heap.size w w1) => HB
  rename Hid (Bx w1 w.heap.size c) => H1
  rename Hid (Bx w1 B2 d) => H2
  go_wp2
  go_ret
  exact ⟨t, rfl, T5.out.trans ⟨fun h => HV.out.2 ⟨P0.out, P1.out, P2.out, P3.out, P4.out, h⟩, fun h => (HV.out.1 h).2.2.2.2.2⟩, HB.out⟩
end Go.Proofs.YtmnndkhdekpecaaGreatDoor.Chu
namespace Go.Proofs.YtmnndkhdekpecaaGreatDoor.Chu
open Go.ChangeShapes Go.WideShapes Go.ChangeAt Go.RowKit
open Par (hidden Bytes Row Prm Prms cell_lt)
set_option linter.unusedVariables false
attribute [local go_sem ↓] execOp_ld execOp_bx execOp_st
attribute [local go_sem] run_box cc_0 cc_1 cc_2 cc_3 cc_4 cc_5 cc_6 cc_7 cc_8 cc_9 cc_10 cc_11 cc_12 cc_13 cc_14

/-- an unknown kind -/
def Oth (k : Int) : Prop := ¬ k = 0 ∧ ¬ k = 1 ∧ ¬ k = 2 ∧ ¬ k = 3 ∧ ¬ k = 4 ∧ ¬ k = 5 ∧ ¬ k = 6 ∧ ¬ k = 7 ∧ ¬ k = 8 ∧ ¬ k = 9 ∧ ¬ k = 10 ∧ ¬ k = 11 ∧ ¬ k = 14 ∧ ¬ k = 16
theorem kind_cases (k : Int) : k = 0 ∨ k = 1 ∨ k = 2 ∨ k = 3 ∨ k = 4 ∨ k = 5 ∨ k = 6 ∨ k = 7 ∨ k = 8 ∨ k = 9 ∨ k = 10 ∨ k = 11 ∨ k = 14 ∨ k = 16 ∨ Oth k := by unfold Oth; omega
/-- the flags that count -/
def cnt (k : Int) : Int := if k = 0 then 7 else if k = 6 ∨ k = 14 then 1 else if k = 1 ∨ k = 2 ∨ k = 3 ∨ k = 16 ∨ k = 4 ∨ k = 5 ∨ k = 9 ∨ k = 7 ∨ k = 8 ∨ k = 10 ∨ k = 11 then 0 else 255
/-- how many bytes stand ahead of the lists -/
def nb (k : Int) : Nat := if k = 1 ∨ k = 2 ∨ k = 16 then 16 else if k = 0 ∨ k = 3 then 12 else if k = 7 then 4 else 0
/-- a heartbeat -/
def beat (k : Int) : Bool := k == 4 || k == 5
theorem counting (k : Int) (w : World) : Calls Tryz.prog 94 #[.int .u8 k] w fun e w' => e = .returned (.int .u8 (cnt k)) ∧ w = w' := by
  rcases kind_cases k with rfl | rfl | rfl | rfl | rfl | rfl | rfl | rfl | rfl | rfl | rfl | rfl | rfl | rfl | h
  · go_enter Tryz.func94, Tryz.ntmps94
    go_wp2
    go_ret
    exact ⟨rfl, rfl⟩
  · go_enter Tryz.func94, Tryz.ntmps94
    go_wp2
    go_ret
    exact ⟨rfl, rfl⟩
  · go_enter Tryz.func94, Tryz.ntmps94
    go_wp2
    go_ret
    exact ⟨rfl, rfl⟩
  · go_enter Tryz.func94, Tryz.ntmps94
    go_wp2
    go_ret
    exact ⟨rfl, rfl⟩
  · go_enter Tryz.func94, Tryz.ntmps94
    go_wp2
    go_ret
    exact ⟨rfl, rfl⟩
  · go_enter Tryz.func94, Tryz.ntmps94
    go_wp2
    go_ret
    exact ⟨rfl, rfl⟩
  · go_enter Tryz.func94, Tryz.ntmps94
    go_wp2
    go_ret
    exact ⟨rfl, rfl⟩
  · go_enter Tryz.func94, Tryz.ntmps94
    go_wp2
    go_ret
    exact ⟨rfl, rfl⟩
  · go_enter Tryz.func94, Tryz.ntmps94
    go_wp2
    go_ret
    exact ⟨rfl, rfl⟩
  · go_enter Tryz.func94, Tryz.ntmps94
    go_wp2
    go_ret
    exact ⟨rfl, rfl⟩
  · go_enter Tryz.func94, Tryz.ntmps94
    go_wp2
    go_ret
    exact ⟨rfl, rfl⟩
  · go_enter Tryz.func94, Tryz.ntmps94
    go_wp2
    go_ret
    exact ⟨rfl, rfl⟩
  · go_enter Tryz.func94, Tryz.ntmps94
    go_wp2
    go_ret
    exact ⟨rfl, rfl⟩
  · go_enter Tryz.func94, Tryz.ntmps94
    go_wp2
    go_ret
    exact ⟨rfl, rfl⟩
  · obtain ⟨h0, h1, h2, h3, h4, h5, h6, h7, h8, h9, h10, h11, h14, h16⟩ := h
    have e0 := beq_f h0
    have e1 := beq_f h1
    have e2 := beq_f h2
    have e3 := beq_f h3
    have e4 := beq_f h4
    have e5 := beq_f h5
    have e6 := beq_f h6
    have e7 := beq_f h7
    have e8 := beq_f h8
    have e9 := beq_f h9
    have e10 := beq_f h10
    have e11 := beq_f h11
    have e14 := beq_f h14
    have e16 := beq_f h16
    go_enter Tryz.func94, Tryz.ntmps94
    go_wp2
    go_ret
    exact ⟨by rw [show cnt k = 255 by simp [cnt, h0, h1, h2, h3, h4, h5, h6, h7, h8, h9, h10, h11, h14, h16]]; rfl, rfl⟩
theorem numberBytes (k : Int) (w : World) : Calls Tryz.prog 97 #[.int .u8 k] w fun e w' => e = .returned (.int .i64 (nb k : Nat)) ∧ w = w' := by
  rcases kind_cases k with rfl | rfl | rfl | rfl | rfl | rfl | rfl | rfl | rfl | rfl | rfl | rfl | rfl | rfl | h
  · go_enter Tryz.func97, Tryz.ntmps97
    go_wp2
    go_ret
    exact ⟨rfl, rfl⟩
  · go_enter Tryz.func97, Tryz.ntmps97
    go_wp2
    go_ret
    exact ⟨rfl, rfl⟩
  · go_enter Tryz.func97, Tryz.ntmps97
    go_wp2
    go_ret
    exact ⟨rfl, rfl⟩
  · go_enter Tryz.func97, Tryz.ntmps97
    go_wp2
    go_ret
    exact ⟨rfl, rfl⟩
  · go_enter Tryz.func97, Tryz.ntmps97
    go_wp2
    go_ret
    exact ⟨rfl, rfl⟩
  · go_enter Tryz.func97, Tryz.ntmps97
    go_wp2
    go_ret
    exact ⟨rfl, rfl⟩
  · go_enter Tryz.func97, Tryz.ntmps97
    go_wp2
    go_ret
    exact ⟨rfl, rfl⟩
  · go_enter Tryz.func97, Tryz.ntmps97
    go_wp2
    go_ret
    exact ⟨rfl, rfl⟩
  · go_enter Tryz.func97, Tryz.ntmps97
    go_wp2
    go_ret
    exact ⟨rfl, rfl⟩
  · go_enter Tryz.func97, Tryz.ntmps97
    go_wp2
    go_ret
    exact ⟨rfl, rfl⟩
  · go_enter Tryz.func97, Tryz.ntmps97
    go_wp2
    go_ret
    exact ⟨rfl, rfl⟩
  · go_enter Tryz.func97, Tryz.ntmps97
    go_wp2
    go_ret
    exact ⟨rfl, rfl⟩
  · go_enter Tryz.func97, Tryz.ntmps97
    go_wp2
    go_ret
    exact ⟨rfl, rfl⟩
  · go_enter Tryz.func97, Tryz.ntmps97
    go_wp2
    go_ret
    exact ⟨rfl, rfl⟩
  · obtain ⟨h0, h1, h2, h3, h4, h5, h6, h7, h8, h9, h10, h11, h14, h16⟩ := h
    have e0 := beq_f h0
    have e1 := beq_f h1
    have e2 := beq_f h2
    have e3 := beq_f h3
    have e4 := beq_f h4
    have e5 := beq_f h5
    have e6 := beq_f h6
    have e7 := beq_f h7
    have e8 := beq_f h8
    have e9 := beq_f h9
    have e10 := beq_f h10
    have e11 := beq_f h11
    have e14 := beq_f h14
    have e16 := beq_f h16
    go_enter Tryz.func97, Tryz.ntmps97
    go_wp2
    go_ret
    exact ⟨by rw [show nb k = 0 by simp [nb, h0, h1, h2, h3, h7, h16]]; rfl, rfl⟩
theorem isBeat (k : Int) (w : World) : Calls Tryz.prog 70 #[.int .u8 k] w fun e w' => e = .returned (.bool (beat k)) ∧ w = w' := by
  by_cases h4 : k = 4
  · subst h4
    go_enter Tryz.func70, Tryz.ntmps70
    go_wp2
    go_ret
    exact ⟨rfl, rfl⟩
  · have e4 := beq_f h4
    go_enter Tryz.func70, Tryz.ntmps70
    go_wp2
    go_ret
    exact ⟨by simp [beat, e4], rfl⟩
theorem filled (n : Nat) (hn : n ≤ 2000000000000004) (w : World) : Calls Tryz.prog 81 #[.int .i64 (n : Int)] w fun e w' => e = .returned (.int .i64 (Par.fill4 n : Nat)) ∧ w = w' := by
  have hd : ((n : Int) + 3).tdiv 4 = (((n + 3) / 4 : Nat) : Int) := by
    rw [Int.tdiv_eq_ediv_of_nonneg (by omega)]; omega
  go_enter Tryz.func81, Tryz.ntmps81
  go_wp2
  go_ret
  refine Par.fin_int ?_
  unfold Par.fill4
  omega
/-- the Params of a heartbeat -/
def OneBeat (ps : List (Int × List Int)) : Prop := ∃ b, ps = [(1, b)]
theorem isOneBeat (base : Nat) (w : World) (pa : Option Addr) (n pcap : Nat) (ps : List Prm) (hp : Prms base w pa n ps) :
    Calls Tryz.prog 71 #[.slice pa n pcap] w fun e w' => ∃ t : Bool, e = .returned (.bool t) ∧ (t = true ↔ OneBeat (ps.map Par.val)) ∧ w = w' := by
  have hl := hp.1
  by_cases h1 : n = 1
  · subst h1
    obtain ⟨b, off, t, a, len, cap, zs, rfl, hpk, hc1, _, _⟩ := hp.get (k := 0) (by omega)
    obtain ⟨p, rfl⟩ : ∃ p, ps = [p] := by
      match ps, hl with
      | [p], _ => exact ⟨p, rfl⟩
    simp only [List.getElem?_cons_zero, Option.some.injEq] at hpk
    subst hpk
    simp only [Nat.zero_mul, Nat.add_zero] at hc1
    clear hp hl
    go_enter Tryz.func71, Tryz.ntmps71
    go_wp2
    go_ret
    exact ⟨_, rfl, by simp [OneBeat, Par.val], rfl⟩
  · have e1 : ((n : Int) == 1) = false := by simp; omega
    go_enter Tryz.func71, Tryz.ntmps71
    go_wp2
    go_ret
    refine ⟨false, rfl, ⟨fun h => (by cases h), fun ⟨b, hb⟩ => ?_⟩, rfl⟩
    have := congrArg List.length hb
    simp at this
    omega
theorem code_le {ps : List Prm} (h : Par.code ps 0) : ¬ Par.Long ps ∧ ps.length ≤ 256 := by
  rcases h with ⟨_, h⟩ | ⟨_, _, h⟩ | ⟨h1, h2, _⟩
  · omega
  · omega
  · exact ⟨h2, h1⟩
theorem code_one {ps : List Prm} {c d : Int} (h : Par.code ps c) (h2 : Par.code ps d) : c = d := by
  unfold Par.code at h h2
  rcases h with ⟨h, e⟩ | ⟨h, h', e⟩ | ⟨h, h', e⟩ <;> rcases h2 with ⟨g, f⟩ | ⟨g, g', f⟩ | ⟨g, g', f⟩ <;> first | omega | exact absurd h' g' | exact absurd g' h'
theorem paramsRefusal (base : Nat) (w : World) (pa : Option Addr) (n pcap : Nat) (ps : List Prm) (hp : Prms base w pa n ps) :
    Calls Tryz.prog 72 #[.slice pa n pcap] w fun e w' => ∃ c : Int, e = .returned (.int .i64 c) ∧ Par.code ps c ∧ Below w.heap.size w w' := by
  have S := hidden (Par.size_ base w pa n pcap ps hp)
  have HP := hidden hp
  clear hp
  go_enter Tryz.func72, Tryz.ntmps72
  go_wp2_with fail
  refine Calls.mono S.out ?_
  rintro e w1 ⟨c, s, hc, h1, h0, rfl, b1⟩
  have HC := hidden hc
  have HS := hidden h1
  clear h1 h0 hc S
  by_cases hs : 0 < s
  · go_wp2
    go_ret
    exact ⟨0, rfl, by
      rcases Int.lt_trichotomy c 0 with h | h | h
      · have := HS.out (by omega); omega
      · rw [← h]; exact HC.out
      · have := HS.out (by omega); omega, b1⟩
  · have E := hidden (Par.encode base w1 pa n pcap ps (HP.out.later b1))
    have HB := hidden b1
    clear b1
    go_wp2_with fail
    refine Calls.mono E.out ?_
    rintro e w2 ⟨v, d, rfl, hd, _, _, b2⟩
    have HD := hidden hd
    have B2 := HB.out.trans (b2.mono HB.out.size)
    clear hd b2 E
    go_wp2
    go_ret
    exact ⟨d, rfl, HD.out, B2⟩
end Go.Proofs.YtmnndkhdekpecaaGreatDoor.Chu
namespace Go.Proofs.YtmnndkhdekpecaaGreatDoor.Chu
open Go.ChangeShapes Go.WideShapes Go.ChangeAt Go.RowKit
open Par (hidden Bytes Row Prm Prms cell_lt)
set_option linter.unusedVariables false
attribute [local go_sem ↓] execOp_ld execOp_bx execOp_st
attribute [local go_sem] run_box cc_0 cc_1 cc_2 cc_3 cc_4 cc_5 cc_6 cc_7 cc_8 cc_9 cc_10 cc_11 cc_12 cc_13 cc_14

/-- the zero chunk of a kind -/
def zck (k : Int) : Ck := ⟨k, 0, 0, 0, 0, 0, 0, 0, 0, 0, none, 0, 0, [], none, 0, 0, [], none, 0, 0, [], none, 0, 0, [], none, 0, 0, []⟩
/-- a whole chunk is stored -/
def stoW (w : World) (B : Nat) (c : Ck) : World := w.setCells B 0 (cc c).toList
theorem sto_run {w : World} {B : Nat} {z : Ck} (h : Bx w B z) (c : Ck) : (sto (.pointer (some ⟨B, 0, none⟩)) (cv c)).run Tryz.prog w = .ok () (stoW w B c) := by
  unfold sto cv
  refine run_storeAt_mid w B 0 59 (cc c) (fun j hj => ⟨?_, h.fr _⟩) infoC (by simp [cc, Value.oneCell'])
  rw [size_cc] at hj
  rw [Nat.zero_add, bx_cell h (v := ((cc z)[j]?).getD undef) (by rw [Array.getElem?_eq_getElem (by rw [size_cc]; omega)]; rfl)]
  rfl
theorem stoW_bx {w : World} {B : Nat} {z : Ck} (h : Bx w B z) (c : Ck) : Bx (stoW w B c) B c := by
  exact (((((((((((((((h.s0 c.kind).s1 c.flags).s2 c.tsn).s3 c.stream).s4 c.ssn).s5 c.proto).s6 c.tag).s7 c.win).s8 c.out).s9 c.inn).s10 c.ga c.gl c.gc c.gs).s11 c.na c.nl c.nc c.ns).s12 c.da c.dl c.dc c.ds).s13 c.ba c.bl c.bc c.bs).s14 c.pa c.pl c.pc c.ps)
theorem below_setCells {n : Nat} {w0 : World} (B : Nat) (hB : n ≤ B) : ∀ (vs : List Value) (o : Nat) (w : World), Below n w0 w → Below n w0 (w.setCells B o vs)
  | [], _, _, h => h
  | v :: r, o, w, h => below_setCells B hB r (o + 1) _ (h.setCell (p := ⟨B, o, none⟩) hB v)
theorem stoW_below {n : Nat} {w0 w : World} {B : Nat} (c : Ck) (h : Below n w0 w) (hB : n ≤ B) : Below n w0 (stoW w B c) := below_setCells B hB _ _ _ h
theorem other_setCells (B b : Nat) (hb : b ≠ B) : ∀ (vs : List Value) (o : Nat) (w : World), (w.setCells B o vs).heap[b]? = w.heap[b]?
  | [], _, _ => rfl
  | v :: r, o, w => (other_setCells B b hb r (o + 1) _).trans (by simp [World.setCell, Array.getElem?_modify, Ne.symm hb])
theorem stoW_other {w : World} {B b : Nat} {d : Ck} (c : Ck) (h : Bx w b d) (hb : b ≠ B) : Bx (stoW w B c) b d := (other_setCells B b hb _ _ _).trans h

/-- the flags that do not count -/
def offF (f k : Int) : Int := bits .andNot .u8 f (cnt k)
/-- what stands beside -/
def bes (c : Ck) : Ck :=
  let c := { c with flags := offF c.flags c.kind }
  if c.kind = 16 then { c with na := none, nl := 0, nc := 0, ns := [], win := 0, ga := none, gl := 0, gc := 0, gs := [], da := none, dl := 0, dc := 0, ds := [], tsn := 0 }
  else if c.kind = 3 then { c with win := 0, ga := none, gl := 0, gc := 0, gs := [], da := none, dl := 0, dc := 0, ds := [], tsn := 0 }
  else if c.kind = 7 then { c with tsn := 0 }
  else if c.kind = 8 ∨ c.kind = 11 ∨ c.kind = 14 then c
  else if c.kind = 1 ∨ c.kind = 2 then { c with tag := 0, win := 0, out := 0, inn := 0, tsn := 0, pa := none, pl := 0, pc := 0, ps := [] }
  else if c.kind = 4 ∨ c.kind = 5 ∨ c.kind = 6 ∨ c.kind = 9 then { c with pa := none, pl := 0, pc := 0, ps := [] }
  else if c.kind = 0 then { c with tsn := 0, stream := 0, ssn := 0, proto := 0, ba := none, bl := 0, bc := 0, bs := [] }
  else { c with ba := none, bl := 0, bc := 0, bs := [] }
theorem Bx.keep {w : World} {B b : Nat} {c : Ck} (h : Bx w B c) (hb : b ≠ B) (i : Nat) (v : Value) : Bx (w.setCell ⟨b, i, none⟩ v) B c := by
  unfold Bx at *
  rw [← h]
  simp [World.setCell, Array.getElem?_modify, hb]
theorem Bx.drew {w : World} {B : Nat} {c : Ck} (h : Bx w B c) : Bx w.drew B c := h
theorem cell_res {w : World} {B p : Nat} {c : Ck} {fn : Func} (h : fn.results = #[.cell p 59]) (hb : Bx w B c) (tmps : Array Value) (hp : tmps.getD p undef = .pointer (some ⟨B, 0, none⟩)) : (results fn tmps).run Tryz.prog w = .ok (cv c) w :=
  results_cell_row h tmps w B 59 (cc c) (0, 0) _ hp hb Tryz.underlying59 rfl infoC
set_option maxHeartbeats 4000000 in
theorem beside (c : Ck) (w : World) : Calls Tryz.prog 69 #[cv c] w fun e w' => e = .returned (cv (bes c)) ∧ Below w.heap.size w w' := by
  have b1 := Bx.new w c
  have b2 : Bx ((w.alloc (.cells (cc c) 59)).alloc (.cells #[.int .u8 0, .int .u8 0, .int .u32 0, .int .u16 0, .int .u16 0, .int .u32 0, .int .u32 0, .int .u32 0, .int .u16 0, .int .u16 0, .slice none 0 0, .slice none 0 0, .slice none 0 0, .slice none 0 0, .slice none 0 0] 59)) (w.heap.size + 1) (zck 0) := by
    have := Bx.new (w.alloc (.cells (cc c) 59)) (zck 0)
    rwa [World.size_alloc] at this
  have b1' := b1.alloc (.cells #[.int .u8 0, .int .u8 0, .int .u32 0, .int .u16 0, .int .u16 0, .int .u32 0, .int .u32 0, .int .u32 0, .int .u16 0, .int .u16 0, .slice none 0 0, .slice none 0 0, .slice none 0 0, .slice none 0 0, .slice none 0 0] 59)
  have hb : Below w.heap.size w ((w.alloc (.cells (cc c) 59)).alloc (.cells #[.int .u8 0, .int .u8 0, .int .u32 0, .int .u16 0, .int .u16 0, .int .u32 0, .int .u32 0, .int .u32 0, .int .u16 0, .int .u16 0, .slice none 0 0, .slice none 0 0, .slice none 0 0, .slice none 0 0, .slice none 0 0] 59)) := (below_box w c).alloc (by simp) _
  have hne : w.heap.size ≠ w.heap.size + 1 := by omega
  have HN := hidden hne
  have HL := hidden (show w.heap.size ≤ w.heap.size + 1 by omega)
  clear b1 hne
  go_enter Tryz.func69, Tryz.ntmps69
  go_upto_region 1 with fail
  generalize (w.alloc (.cells (cc c) 59)).alloc (.cells #[.int .u8 0, .int .u8 0, .int .u32 0, .int .u16 0, .int .u16 0, .int .u32 0, .int .u32 0, .int .u32 0, .int .u16 0, .int .u16 0, .slice none 0 0, .slice none 0 0, .slice none 0 0, .slice none 0 0, .slice none 0 0] 59) = W at *
  generalize w.heap.size + 1 = B2 at *
  have H1 := hidden b1'
  have H2 := hidden b2
  have HB := hidden hb
  clear b1' b2 hb
  go_cut [3, 4, 5, 6, 7, 8, 9] (fun _ _ _ _ _ _ _ wx => Bx wx w.heap.size { c with flags := offF c.flags c.kind } ∧ Bx wx B2 (zck 0) ∧ Below w.heap.size w wx)
  case first =>
    have K1 := H1.out.c1
    have K0 := H1.out.c0
    have f1 := H1.out.fr 1
    go_region_with (first | (go_at_call 94; refine (counting _ _).mono ?_; rintro e w' ⟨rfl, rfl⟩))
    all_goals (go_wp2_with fail; go_meet; exact ⟨H1.out.s1 _, H2.out.keep HN.out _ _, (HB.out.setCell (p := ⟨w.heap.size, 1, none⟩) (Nat.le_refl _) _).drew⟩)
  case rest =>
  obtain ⟨b1, b2, hb⟩ := hcut
  have HB0 := hidden hb
  have HC0 := hidden b1
  have HZ0 := hidden b2
  clear hb b1 b2 H1 H2 HB
  rcases kind_cases c.kind with hk | hk | hk | hk | hk | hk | hk | hk | hk | hk | hk | hk | hk | hk | hk
  · have b1 := (((((HC0.out.s2 0).s3 0).s4 0).s5 0).s13 none 0 0 [])
    have b2 := (((((HZ0.out.keep HN.out 2 (.int .u32 0)).keep HN.out 3 (.int .u16 0)).keep HN.out 4 (.int .u16 0)).keep HN.out 5 (.int .u32 0)).keep HN.out 13 (.slice none 0 0))
    have b3 := stoW_bx b2 (bes c)
    have hS := sto_run b2 (bes c)
    have hB := hidden (stoW_below (bes c) (((((HB0.out.setCell (p := ⟨w.heap.size, 2, none⟩) (Nat.le_refl _) (.int .u32 0)).setCell (p := ⟨w.heap.size, 3, none⟩) (Nat.le_refl _) (.int .u16 0)).setCell (p := ⟨w.heap.size, 4, none⟩) (Nat.le_refl _) (.int .u16 0)).setCell (p := ⟨w.heap.size, 5, none⟩) (Nat.le_refl _) (.int .u32 0)).setCell (p := ⟨w.heap.size, 13, none⟩) (Nat.le_refl _) (.slice none 0 0)) HL.out)
    have hE := b1.ld
    rw [show cv _ = cv (bes c) from ?hE0] at hE
    have H3 := hidden b3
    clear b1 b2 b3
    have K0 := HC0.out.c2
    have f0 := HC0.out.fr 2
    have K1 := (HC0.out.s2 0).c3
    have f1 := (HC0.out.s2 0).fr 3
    have K2 := ((HC0.out.s2 0).s3 0).c4
    have f2 := ((HC0.out.s2 0).s3 0).fr 4
    have K3 := (((HC0.out.s2 0).s3 0).s4 0).c5
    have f3 := (((HC0.out.s2 0).s3 0).s4 0).fr 5
    have K4 := ((((HC0.out.s2 0).s3 0).s4 0).s5 0).c13
    have f4 := ((((HC0.out.s2 0).s3 0).s4 0).s5 0).fr 13
    have K99 := HC0.out.c0
    simp only [] at K99
    go_wp2_with fail
    refine bodyPost_ret (v := cv (bes c)) (cell_res Tryz.results69 H3.out _ rfl) rfl ⟨rfl, hB.out⟩
    case hE0 => unfold bes; simp [hk]
  · have b1 := ((((((HC0.out.s6 0).s7 0).s8 0).s9 0).s2 0).s14 none 0 0 [])
    have b2 := ((((((HZ0.out.keep HN.out 6 (.int .u32 0)).keep HN.out 7 (.int .u32 0)).keep HN.out 8 (.int .u16 0)).keep HN.out 9 (.int .u16 0)).keep HN.out 2 (.int .u32 0)).keep HN.out 14 (.slice none 0 0))
    have b3 := stoW_bx b2 (bes c)
    have hS := sto_run b2 (bes c)
    have hB := hidden (stoW_below (bes c) ((((((HB0.out.setCell (p := ⟨w.heap.size, 6, none⟩) (Nat.le_refl _) (.int .u32 0)).setCell (p := ⟨w.heap.size, 7, none⟩) (Nat.le_refl _) (.int .u32 0)).setCell (p := ⟨w.heap.size, 8, none⟩) (Nat.le_refl _) (.int .u16 0)).setCell (p := ⟨w.heap.size, 9, none⟩) (Nat.le_refl _) (.int .u16 0)).setCell (p := ⟨w.heap.size, 2, none⟩) (Nat.le_refl _) (.int .u32 0)).setCell (p := ⟨w.heap.size, 14, none⟩) (Nat.le_refl _) (.slice none 0 0)) HL.out)
    have hE := b1.ld
    rw [show cv _ = cv (bes c) from ?hE1] at hE
    have H3 := hidden b3
    clear b1 b2 b3
    have K0 := HC0.out.c6
    have f0 := HC0.out.fr 6
    have K1 := (HC0.out.s6 0).c7
    have f1 := (HC0.out.s6 0).fr 7
    have K2 := ((HC0.out.s6 0).s7 0).c8
    have f2 := ((HC0.out.s6 0).s7 0).fr 8
    have K3 := (((HC0.out.s6 0).s7 0).s8 0).c9
    have f3 := (((HC0.out.s6 0).s7 0).s8 0).fr 9
    have K4 := ((((HC0.out.s6 0).s7 0).s8 0).s9 0).c2
    have f4 := ((((HC0.out.s6 0).s7 0).s8 0).s9 0).fr 2
    have K5 := (((((HC0.out.s6 0).s7 0).s8 0).s9 0).s2 0).c14
    have f5 := (((((HC0.out.s6 0).s7 0).s8 0).s9 0).s2 0).fr 14
    have K99 := HC0.out.c0
    simp only [] at K99
    go_wp2_with fail
    refine bodyPost_ret (v := cv (bes c)) (cell_res Tryz.results69 H3.out _ rfl) rfl ⟨rfl, hB.out⟩
    case hE1 => unfold bes; simp [hk]
  · have b1 := ((((((HC0.out.s6 0).s7 0).s8 0).s9 0).s2 0).s14 none 0 0 [])
    have b2 := ((((((HZ0.out.keep HN.out 6 (.int .u32 0)).keep HN.out 7 (.int .u32 0)).keep HN.out 8 (.int .u16 0)).keep HN.out 9 (.int .u16 0)).keep HN.out 2 (.int .u32 0)).keep HN.out 14 (.slice none 0 0))
    have b3 := stoW_bx b2 (bes c)
    have hS := sto_run b2 (bes c)
    have hB := hidden (stoW_below (bes c) ((((((HB0.out.setCell (p := ⟨w.heap.size, 6, none⟩) (Nat.le_refl _) (.int .u32 0)).setCell (p := ⟨w.heap.size, 7, none⟩) (Nat.le_refl _) (.int .u32 0)).setCell (p := ⟨w.heap.size, 8, none⟩) (Nat.le_refl _) (.int .u16 0)).setCell (p := ⟨w.heap.size, 9, none⟩) (Nat.le_refl _) (.int .u16 0)).setCell (p := ⟨w.heap.size, 2, none⟩) (Nat.le_refl _) (.int .u32 0)).setCell (p := ⟨w.heap.size, 14, none⟩) (Nat.le_refl _) (.slice none 0 0)) HL.out)
    have hE := b1.ld
    rw [show cv _ = cv (bes c) from ?hE2] at hE
    have H3 := hidden b3
    clear b1 b2 b3
    have K0 := HC0.out.c6
    have f0 := HC0.out.fr 6
    have K1 := (HC0.out.s6 0).c7
    have f1 := (HC0.out.s6 0).fr 7
    have K2 := ((HC0.out.s6 0).s7 0).c8
    have f2 := ((HC0.out.s6 0).s7 0).fr 8
    have K3 := (((HC0.out.s6 0).s7 0).s8 0).c9
    have f3 := (((HC0.out.s6 0).s7 0).s8 0).fr 9
    have K4 := ((((HC0.out.s6 0).s7 0).s8 0).s9 0).c2
    have f4 := ((((HC0.out.s6 0).s7 0).s8 0).s9 0).fr 2
    have K5 := (((((HC0.out.s6 0).s7 0).s8 0).s9 0).s2 0).c14
    have f5 := (((((HC0.out.s6 0).s7 0).s8 0).s9 0).s2 0).fr 14
    have K99 := HC0.out.c0
    simp only [] at K99
    go_wp2_with fail
    refine bodyPost_ret (v := cv (bes c)) (cell_res Tryz.results69 H3.out _ rfl) rfl ⟨rfl, hB.out⟩
    case hE2 => unfold bes; simp [hk]
  · have b1 := ((((HC0.out.s7 0).s10 none 0 0 []).s12 none 0 0 []).s2 0)
    have b2 := ((((HZ0.out.keep HN.out 7 (.int .u32 0)).keep HN.out 10 (.slice none 0 0)).keep HN.out 12 (.slice none 0 0)).keep HN.out 2 (.int .u32 0))
    have b3 := stoW_bx b2 (bes c)
    have hS := sto_run b2 (bes c)
    have hB := hidden (stoW_below (bes c) ((((HB0.out.setCell (p := ⟨w.heap.size, 7, none⟩) (Nat.le_refl _) (.int .u32 0)).setCell (p := ⟨w.heap.size, 10, none⟩) (Nat.le_refl _) (.slice none 0 0)).setCell (p := ⟨w.heap.size, 12, none⟩) (Nat.le_refl _) (.slice none 0 0)).setCell (p := ⟨w.heap.size, 2, none⟩) (Nat.le_refl _) (.int .u32 0)) HL.out)
    have hE := b1.ld
    rw [show cv _ = cv (bes c) from ?hE3] at hE
    have H3 := hidden b3
    clear b1 b2 b3
    have K0 := HC0.out.c7
    have f0 := HC0.out.fr 7
    have K1 := (HC0.out.s7 0).c10
    have f1 := (HC0.out.s7 0).fr 10
    have K2 := ((HC0.out.s7 0).s10 none 0 0 []).c12
    have f2 := ((HC0.out.s7 0).s10 none 0 0 []).fr 12
    have K3 := (((HC0.out.s7 0).s10 none 0 0 []).s12 none 0 0 []).c2
    have f3 := (((HC0.out.s7 0).s10 none 0 0 []).s12 none 0 0 []).fr 2
    have K99 := HC0.out.c0
    simp only [] at K99
    go_wp2_with fail
    refine bodyPost_ret (v := cv (bes c)) (cell_res Tryz.results69 H3.out _ rfl) rfl ⟨rfl, hB.out⟩
    case hE3 => unfold bes; simp [hk]
  · have b1 := (HC0.out.s14 none 0 0 [])
    have b2 := (HZ0.out.keep HN.out 14 (.slice none 0 0))
    have b3 := stoW_bx b2 (bes c)
    have hS := sto_run b2 (bes c)
    have hB := hidden (stoW_below (bes c) (HB0.out.setCell (p := ⟨w.heap.size, 14, none⟩) (Nat.le_refl _) (.slice none 0 0)) HL.out)
    have hE := b1.ld
    rw [show cv _ = cv (bes c) from ?hE4] at hE
    have H3 := hidden b3
    clear b1 b2 b3
    have K0 := HC0.out.c14
    have f0 := HC0.out.fr 14
    have K99 := HC0.out.c0
    simp only [] at K99
    go_wp2_with fail
    refine bodyPost_ret (v := cv (bes c)) (cell_res Tryz.results69 H3.out _ rfl) rfl ⟨rfl, hB.out⟩
    case hE4 => unfold bes; simp [hk]
  · have b1 := (HC0.out.s14 none 0 0 [])
    have b2 := (HZ0.out.keep HN.out 14 (.slice none 0 0))
    have b3 := stoW_bx b2 (bes c)
    have hS := sto_run b2 (bes c)
    have hB := hidden (stoW_below (bes c) (HB0.out.setCell (p := ⟨w.heap.size, 14, none⟩) (Nat.le_refl _) (.slice none 0 0)) HL.out)
    have hE := b1.ld
    rw [show cv _ = cv (bes c) from ?hE5] at hE
    have H3 := hidden b3
    clear b1 b2 b3
    have K0 := HC0.out.c14
    have f0 := HC0.out.fr 14
    have K99 := HC0.out.c0
    simp only [] at K99
    go_wp2_with fail
    refine bodyPost_ret (v := cv (bes c)) (cell_res Tryz.results69 H3.out _ rfl) rfl ⟨rfl, hB.out⟩
    case hE5 => unfold bes; simp [hk]
  · have b1 := (HC0.out.s14 none 0 0 [])
    have b2 := (HZ0.out.keep HN.out 14 (.slice none 0 0))
    have b3 := stoW_bx b2 (bes c)
    have hS := sto_run b2 (bes c)
    have hB := hidden (stoW_below (bes c) (HB0.out.setCell (p := ⟨w.heap.size, 14, none⟩) (Nat.le_refl _) (.slice none 0 0)) HL.out)
    have hE := b1.ld
    rw [show cv _ = cv (bes c) from ?hE6] at hE
    have H3 := hidden b3
    clear b1 b2 b3
    have K0 := HC0.out.c14
    have f0 := HC0.out.fr 14
    have K99 := HC0.out.c0
    simp only [] at K99
    go_wp2_with fail
    refine bodyPost_ret (v := cv (bes c)) (cell_res Tryz.results69 H3.out _ rfl) rfl ⟨rfl, hB.out⟩
    case hE6 => unfold bes; simp [hk]
  · have b1 := (HC0.out.s2 0)
    have b2 := (HZ0.out.keep HN.out 2 (.int .u32 0))
    have b3 := stoW_bx b2 (bes c)
    have hS := sto_run b2 (bes c)
    have hB := hidden (stoW_below (bes c) (HB0.out.setCell (p := ⟨w.heap.size, 2, none⟩) (Nat.le_refl _) (.int .u32 0)) HL.out)
    have hE := b1.ld
    rw [show cv _ = cv (bes c) from ?hE7] at hE
    have H3 := hidden b3
    clear b1 b2 b3
    have K0 := HC0.out.c2
    have f0 := HC0.out.fr 2
    have K99 := HC0.out.c0
    simp only [] at K99
    go_wp2_with fail
    refine bodyPost_ret (v := cv (bes c)) (cell_res Tryz.results69 H3.out _ rfl) rfl ⟨rfl, hB.out⟩
    case hE7 => unfold bes; simp [hk]
  · have b1 := HC0.out
    have b2 := HZ0.out
    have b3 := stoW_bx b2 (bes c)
    have hS := sto_run b2 (bes c)
    have hB := hidden (stoW_below (bes c) HB0.out HL.out)
    have hE := b1.ld
    rw [show cv _ = cv (bes c) from ?hE8] at hE
    have H3 := hidden b3
    clear b1 b2 b3
    have K99 := HC0.out.c0
    simp only [] at K99
    go_wp2_with fail
    refine bodyPost_ret (v := cv (bes c)) (cell_res Tryz.results69 H3.out _ rfl) rfl ⟨rfl, hB.out⟩
    case hE8 => unfold bes; simp [hk]
  · have b1 := (HC0.out.s14 none 0 0 [])
    have b2 := (HZ0.out.keep HN.out 14 (.slice none 0 0))
    have b3 := stoW_bx b2 (bes c)
    have hS := sto_run b2 (bes c)
    have hB := hidden (stoW_below (bes c) (HB0.out.setCell (p := ⟨w.heap.size, 14, none⟩) (Nat.le_refl _) (.slice none 0 0)) HL.out)
    have hE := b1.ld
    rw [show cv _ = cv (bes c) from ?hE9] at hE
    have H3 := hidden b3
    clear b1 b2 b3
    have K0 := HC0.out.c14
    have f0 := HC0.out.fr 14
    have K99 := HC0.out.c0
    simp only [] at K99
    go_wp2_with fail
    refine bodyPost_ret (v := cv (bes c)) (cell_res Tryz.results69 H3.out _ rfl) rfl ⟨rfl, hB.out⟩
    case hE9 => unfold bes; simp [hk]
  · have b1 := (HC0.out.s13 none 0 0 [])
    have b2 := (HZ0.out.keep HN.out 13 (.slice none 0 0))
    have b3 := stoW_bx b2 (bes c)
    have hS := sto_run b2 (bes c)
    have hB := hidden (stoW_below (bes c) (HB0.out.setCell (p := ⟨w.heap.size, 13, none⟩) (Nat.le_refl _) (.slice none 0 0)) HL.out)
    have hE := b1.ld
    rw [show cv _ = cv (bes c) from ?hE10] at hE
    have H3 := hidden b3
    clear b1 b2 b3
    have K0 := HC0.out.c13
    have f0 := HC0.out.fr 13
    have K99 := HC0.out.c0
    simp only [] at K99
    go_wp2_with fail
    refine bodyPost_ret (v := cv (bes c)) (cell_res Tryz.results69 H3.out _ rfl) rfl ⟨rfl, hB.out⟩
    case hE10 => unfold bes; simp [hk]
  · have b1 := HC0.out
    have b2 := HZ0.out
    have b3 := stoW_bx b2 (bes c)
    have hS := sto_run b2 (bes c)
    have hB := hidden (stoW_below (bes c) HB0.out HL.out)
    have hE := b1.ld
    rw [show cv _ = cv (bes c) from ?hE11] at hE
    have H3 := hidden b3
    clear b1 b2 b3
    have K99 := HC0.out.c0
    simp only [] at K99
    go_wp2_with fail
    refine bodyPost_ret (v := cv (bes c)) (cell_res Tryz.results69 H3.out _ rfl) rfl ⟨rfl, hB.out⟩
    case hE11 => unfold bes; simp [hk]
  · have b1 := HC0.out
    have b2 := HZ0.out
    have b3 := stoW_bx b2 (bes c)
    have hS := sto_run b2 (bes c)
    have hB := hidden (stoW_below (bes c) HB0.out HL.out)
    have hE := b1.ld
    rw [show cv _ = cv (bes c) from ?hE14] at hE
    have H3 := hidden b3
    clear b1 b2 b3
    have K99 := HC0.out.c0
    simp only [] at K99
    go_wp2_with fail
    refine bodyPost_ret (v := cv (bes c)) (cell_res Tryz.results69 H3.out _ rfl) rfl ⟨rfl, hB.out⟩
    case hE14 => unfold bes; simp [hk]
  · have b1 := (((((HC0.out.s11 none 0 0 []).s7 0).s10 none 0 0 []).s12 none 0 0 []).s2 0)
    have b2 := (((((HZ0.out.keep HN.out 11 (.slice none 0 0)).keep HN.out 7 (.int .u32 0)).keep HN.out 10 (.slice none 0 0)).keep HN.out 12 (.slice none 0 0)).keep HN.out 2 (.int .u32 0))
    have b3 := stoW_bx b2 (bes c)
    have hS := sto_run b2 (bes c)
    have hB := hidden (stoW_below (bes c) (((((HB0.out.setCell (p := ⟨w.heap.size, 11, none⟩) (Nat.le_refl _) (.slice none 0 0)).setCell (p := ⟨w.heap.size, 7, none⟩) (Nat.le_refl _) (.int .u32 0)).setCell (p := ⟨w.heap.size, 10, none⟩) (Nat.le_refl _) (.slice none 0 0)).setCell (p := ⟨w.heap.size, 12, none⟩) (Nat.le_refl _) (.slice none 0 0)).setCell (p := ⟨w.heap.size, 2, none⟩) (Nat.le_refl _) (.int .u32 0)) HL.out)
    have hE := b1.ld
    rw [show cv _ = cv (bes c) from ?hE16] at hE
    have H3 := hidden b3
    clear b1 b2 b3
    have K0 := HC0.out.c11
    have f0 := HC0.out.fr 11
    have K1 := (HC0.out.s11 none 0 0 []).c7
    have f1 := (HC0.out.s11 none 0 0 []).fr 7
    have K2 := ((HC0.out.s11 none 0 0 []).s7 0).c10
    have f2 := ((HC0.out.s11 none 0 0 []).s7 0).fr 10
    have K3 := (((HC0.out.s11 none 0 0 []).s7 0).s10 none 0 0 []).c12
    have f3 := (((HC0.out.s11 none 0 0 []).s7 0).s10 none 0 0 []).fr 12
    have K4 := ((((HC0.out.s11 none 0 0 []).s7 0).s10 none 0 0 []).s12 none 0 0 []).c2
    have f4 := ((((HC0.out.s11 none 0 0 []).s7 0).s10 none 0 0 []).s12 none 0 0 []).fr 2
    have K99 := HC0.out.c0
    simp only [] at K99
    go_wp2_with fail
    refine bodyPost_ret (v := cv (bes c)) (cell_res Tryz.results69 H3.out _ rfl) rfl ⟨rfl, hB.out⟩
    case hE16 => unfold bes; simp [hk]
  · have HKK := hidden hk
    obtain ⟨h0, h1, h2, h3, h4, h5, h6, h7, h8, h9, h10, h11, h14, h16⟩ := hk
    have e0 := beq_f h0
    have e1 := beq_f h1
    have e2 := beq_f h2
    have e3 := beq_f h3
    have e4 := beq_f h4
    have e5 := beq_f h5
    have e6 := beq_f h6
    have e7 := beq_f h7
    have e8 := beq_f h8
    have e9 := beq_f h9
    have e10 := beq_f h10
    have e11 := beq_f h11
    have e14 := beq_f h14
    have e16 := beq_f h16
    clear h0 h1 h2 h3 h4 h5 h6 h7 h8 h9 h10 h11 h14 h16
    have b1 := (HC0.out.s13 none 0 0 [])
    have b2 := (HZ0.out.keep HN.out 13 (.slice none 0 0))
    have b3 := stoW_bx b2 (bes c)
    have hS := sto_run b2 (bes c)
    have hB := hidden (stoW_below (bes c) (HB0.out.setCell (p := ⟨w.heap.size, 13, none⟩) (Nat.le_refl _) (.slice none 0 0)) HL.out)
    have hE := b1.ld
    rw [show cv _ = cv (bes c) from ?hEo] at hE
    have H3 := hidden b3
    clear b1 b2 b3
    have K0 := HC0.out.c13
    have f0 := HC0.out.fr 13
    have K99 := HC0.out.c0
    simp only [] at K99
    go_wp2_with fail
    refine bodyPost_ret (v := cv (bes c)) (cell_res Tryz.results69 H3.out _ rfl) rfl ⟨rfl, hB.out⟩
    case hEo => unfold bes; simp [HKK.out.1, HKK.out.2]
end Go.Proofs.YtmnndkhdekpecaaGreatDoor.Chu
