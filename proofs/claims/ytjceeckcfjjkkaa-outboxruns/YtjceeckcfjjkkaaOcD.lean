/-
  What came in: blocks, truths, chunks, parts, acts.
  Conditions: as at each lemma.
-/
import Derived.Test.YtjceeckcfjjkkaaOcArgs
import Derived.Test.YtjceeckcfjjkkaaObI
import Derived.Deep.Slices
namespace Go.Proofs.Ytjceeckcfjjkkaa.Ob
open Go.ChangeShapes Go.WideShapes Go.ChangeAt Go.RowKit Go.Deep
open Ba (hidden Has cell_lt heap_lt)
set_option linter.unusedVariables false
def gcell (g : Int × Int) : List Value := [.int .u16 g.1, .int .u16 g.2]
def OkG (W : World) (g : Int × Int) : Prop := 0 ≤ g.1 ∧ g.1 < 65536 ∧ 0 ≤ g.2 ∧ g.2 < 65536
/-- a chunk as it came in -/
structure QA where
  c : Ck
  gs : List (Int × Int)
  nr : List (Int × Int)
def qcell (q : QA) : List Value := (kcs q.c).toList
structure OkQ (W : World) (q : QA) : Prop where
  g : Gp (fun _ => True) W q.c.gv q.gs
  n : Gp (fun _ => True) W q.c.nv q.nr
  t0 : 0 ≤ q.c.tsn
  t1 : q.c.tsn < 4294967296
  l : q.gs.length ≤ 35184372088831
  m : q.nr.length ≤ 35184372088831
def QA.q (q : QA) : Rq := ⟨q.c.kd, q.c.tsn, q.gs, q.nr⟩
theorem OkQ.later {w w' : World} {q : QA} (h : OkQ w q) (hB : Below w.heap.size w w') : OkQ w' q := ⟨h.g.later hB, h.n.later hB, h.t0, h.t1, h.l, h.m⟩
theorem OkQ.rp {w : World} {q : QA} (h : OkQ w q) : Rp (fun _ => True) w q.c q.q := ⟨rfl, rfl, h.t0, h.t1, h.g, h.n, h.l, h.m⟩
abbrev Bools := Els 1 (fun z : Bool => [Value.bool z]) (fun _ _ => True)
/-- a message, a part, an act as it came in -/
structure MA where
  st : Int
  sn : Int
  pr : Int
  un : Bool
  a : Option Addr
  l : Nat
  c : Nat
  zs : List Int
def mcell (z : MA) : List Value := [.int .u16 z.st, .int .u16 z.sn, .int .u32 z.pr, .bool z.un, .slice z.a z.l z.c]
def OkM (W : World) (z : MA) : Prop := Row W z.a z.l z.zs ∧ (z.a = none → z.l = 0 ∧ z.c = 0)
structure PA where
  m : MA
  bg : Bool
  en : Bool
def pcell (z : PA) : List Value := [.int .u16 z.m.st, .int .u16 z.m.sn, .int .u32 z.m.pr, .bool z.m.un, .slice z.m.a z.m.l z.m.c, .bool z.bg, .bool z.en]
def OkP (W : World) (z : PA) : Prop := OkM W z.m
structure OA where
  kd : Int
  pa : Int
  now : Int
  p : PA
  at_ : Int
  q : QA
def ocell (z : OA) : List Value := [.int .i64 z.kd, .int .i64 z.pa, .int .i64 z.now, .int .u16 z.p.m.st, .int .u16 z.p.m.sn, .int .u32 z.p.m.pr, .bool z.p.m.un, .slice z.p.m.a z.p.m.l z.p.m.c, .bool z.p.bg, .bool z.p.en, .int .u32 z.at_, .int .u8 z.q.c.kd, .int .u8 z.q.c.fg, .int .u32 z.q.c.tsn, .int .u16 z.q.c.sm, .int .u16 z.q.c.sn, .int .u32 z.q.c.pr, .int .u32 z.q.c.tag, .int .u32 z.q.c.win, .int .u16 z.q.c.out, .int .u16 z.q.c.inn, .slice z.q.c.ga z.q.c.gl z.q.c.gc, .slice z.q.c.na z.q.c.nl z.q.c.nc, .slice z.q.c.da z.q.c.dl z.q.c.dc, .slice z.q.c.ba z.q.c.bl z.q.c.bc, .slice z.q.c.pa z.q.c.pl z.q.c.pc]
def OkO (W : World) (z : OA) : Prop := OkP W z.p ∧ OkQ W z.q ∧ (0 ≤ z.at_ ∧ z.at_ < 4294967296)
abbrev Ops := Els 26 ocell OkO
theorem OkO.later {w w' : World} {z : OA} (h : OkO w z) (hB : Below w.heap.size w w') : OkO w' z := ⟨⟨h.1.1.later hB, h.1.2⟩, h.2.1.later hB, h.2.2⟩
section
variable {H : Type} {enc : TypeId × Value → H} {W : World} {base : Nat} {held : Bool} {fuel : Nat} {cl : List Value} {x : DataW H × List MemPlace}
theorem shape_of {T E : TypeId} (hT : Try.prog.underlying T = some (.slice E)) (h : DataW.trod enc Try.prog W base (fun _ => true) held fuel T cl = some x) : ∃ a n c, cl = [.slice a n c] := by
  rcases open_slice hT h with ⟨rfl, _⟩ | ⟨a, l, c, _, _, _, _, rfl, _⟩
  · exact ⟨none, 0, 0, rfl⟩
  · exact ⟨some a, l, c, rfl⟩
set_option maxRecDepth 100000 in
theorem listgap {α : Type} {l : List α} (h : l.length = 2) : ∃ v0 v1, l = [v0, v1] := by
  match l, h with
  | [v0, v1], _ => exact ⟨v0, v1, rfl⟩
theorem fieldsgap : ∃ fs : Array Field, Try.prog.underlying 65 = some (.struct fs) ∧ fs.map (fun f => (f.offset, f.type)) = #[(0, 37), (1, 37)] := ⟨_, Try.underlying65, by simp⟩
set_option maxRecDepth 20000 in
set_option maxHeartbeats 1000000 in
theorem gap_of (h : DataW.trod enc Try.prog W base (fun _ => true) held fuel 65 cl = some x) (hsz : (x.1.weights Try.prog 65).all (· ≤ reachBytes) = true) : ∃ q : Int × Int, cl = gcell q ∧ OkG W q ∧ 0 ≤ Rows.uptoBulk x.1 := by
  obtain ⟨fs, hu, hfs⟩ := fieldsgap
  obtain ⟨xs, n, hf, hx, hcl, hxl, hfield⟩ := DataW.trod_struct hu h
  have hc3 : Try.prog.cellsOf 65 = 2 := by kernel_rfl
  rw [hc3] at hcl
  have hfl : fs.size = 2 := by
    have := congrArg Array.size hfs
    simpa using this
  rw [hfl] at hxl
  subst hx
  simp only [DataW.weights, hu] at hsz
  have htypes : fs.toList.map (fun f => f.type) = [37, 37] := by
    have := congrArg (fun l => l.toList.map (·.2)) hfs
    simpa [Function.comp_def] using this
  rw [htypes] at hsz
  have wt : ∀ (i : Nat) (t : TypeId) (y : DataW H × List MemPlace), ([37, 37] : List TypeId)[i]? = some t → xs[i]? = some y → (y.1.weights Try.prog t).all (· ≤ reachBytes) = true := by
    intro i t y ht hy
    refine List.all_eq_true.2 fun m hm => List.all_eq_true.1 hsz m (DataW.weights_mem_each (j := i) ht (by rw [List.getElem?_map, hy]; rfl) m hm)
  obtain ⟨v0, v1, rfl⟩ := listgap hcl
  obtain ⟨y0, y1, rfl⟩ := listgap hxl
  obtain ⟨q0, k0, o0, t0⟩ := field_at hfs (i := 0) (o := 0) (t := 37) rfl
  have g0 := hfield 0 q0 k0
  rw [o0, t0, show Try.prog.cellsOf 37 = 1 by kernel_rfl] at g0
  simp only [List.drop_zero, List.take_succ_cons, List.take_zero, List.getElem?_cons_zero] at g0
  obtain ⟨n0, e0, _, w0⟩ := DataW.trod_int Try.underlying37 g0
  obtain rfl : v0 = .int .u16 n0 := by simpa using e0
  obtain ⟨q1, k1, o1, t1⟩ := field_at hfs (i := 1) (o := 1) (t := 37) rfl
  have g1 := hfield 1 q1 k1
  rw [o1, t1, show Try.prog.cellsOf 37 = 1 by kernel_rfl] at g1
  simp only [List.drop_succ_cons, List.drop_zero, List.take_succ_cons, List.take_zero, List.getElem?_cons_zero, List.getElem?_cons_succ] at g1
  obtain ⟨n1, e1, _, w1⟩ := DataW.trod_int Try.underlying37 g1
  obtain rfl : v1 = .int .u16 n1 := by simpa using e1
  refine ⟨(n0, n1), rfl, ⟨(u16_bounds w0).1, (u16_bounds w0).2, (u16_bounds w1).1, (u16_bounds w1).2⟩, ?_⟩
  exact Nat.zero_le _
theorem gaps_of (h : DataW.trod enc Try.prog W base (fun _ => true) held fuel 44 cl = some x) (hsz : (x.1.weights Try.prog 44).all (· ≤ reachBytes) = true) : ∃ a n cap gs, cl = [.slice a n cap] ∧ Gp (fun _ => True) W (.slice a n cap) gs ∧ gs.length ≤ 35184372088831 ∧ gs.length ≤ Rows.uptoBulk x.1 := by
  obtain ⟨a, n, cap, rfl⟩ := shape_of Try.underlying44 h
  have hb : Try.prog.bytesOf 65 = 4 := by kernel_rfl
  haveI : Inhabited (Int × Int) := ⟨(0, 0)⟩
  obtain ⟨gs, h1, h2, h3, h4, h5, h6, h7, h8⟩ := rows_of (X := Int × Int) (cells := gcell) (ok := OkG W) (fun _ => 0) (k := 2) (E := 65) (by kernel_rfl) (by decide) (fun q => rfl) gap_of Try.underlying44 (a := a) (n := n) (cap := cap) h hsz
  rw [hb] at h5
  refine ⟨a, n, cap, gs, rfl, ⟨a, cap, by rw [h1], by omega, fun g hg => h2 g hg, ?_⟩, by omega, by omega⟩
  rcases h3 with h3 | ⟨b, off, rfl, hc⟩
  · exact .inl (List.eq_nil_of_length_eq_zero (by omega))
  · refine .inr ⟨b, off, rfl, trivial, fun j u hj => ?_⟩
    have hjl : j < gs.length * 2 := by
      have := (List.getElem?_eq_some_iff.1 hj).1
      rwa [gcs_len] at this
    have hd : j / 2 < gs.length := by omega
    have hg := List.getElem?_eq_getElem hd
    obtain ⟨k0, k1⟩ := gcs_get hg
    rcases Nat.mod_two_eq_zero_or_one j with hj0 | hj1
    · have e : j / 2 * 2 = j := by omega
      rw [e, hj] at k0
      have := hc (j / 2) _ hg 0 u (by rw [k0]; rfl)
      rwa [show off + j / 2 * 2 + 0 = off + j by omega] at this
    · have e : j / 2 * 2 + 1 = j := by omega
      rw [e, hj] at k1
      have := hc (j / 2) _ hg 1 u (by rw [k1]; rfl)
      rwa [show off + j / 2 * 2 + 1 = off + j by omega] at this
set_option maxRecDepth 100000 in
theorem listchunk {α : Type} {l : List α} (h : l.length = 15) : ∃ v0 v1 v2 v3 v4 v5 v6 v7 v8 v9 v10 v11 v12 v13 v14, l = [v0, v1, v2, v3, v4, v5, v6, v7, v8, v9, v10, v11, v12, v13, v14] := by
  match l, h with
  | [v0, v1, v2, v3, v4, v5, v6, v7, v8, v9, v10, v11, v12, v13, v14], _ => exact ⟨v0, v1, v2, v3, v4, v5, v6, v7, v8, v9, v10, v11, v12, v13, v14, rfl⟩
theorem fieldschunk : ∃ fs : Array Field, Try.prog.underlying 48 = some (.struct fs) ∧ fs.map (fun f => (f.offset, f.type)) = #[(0, 43), (1, 5), (2, 22), (3, 37), (4, 37), (5, 22), (6, 22), (7, 22), (8, 37), (9, 37), (10, 44), (11, 44), (12, 45), (13, 38), (14, 46)] := ⟨_, Try.underlying48, by simp⟩
set_option maxRecDepth 20000 in
set_option maxHeartbeats 1000000 in
theorem chunk_of (h : DataW.trod enc Try.prog W base (fun _ => true) held fuel 48 cl = some x) (hsz : (x.1.weights Try.prog 48).all (· ≤ reachBytes) = true) : ∃ q : QA, cl = qcell q ∧ OkQ W q ∧ q.gs.length ≤ Rows.uptoBulk x.1 := by
  obtain ⟨fs, hu, hfs⟩ := fieldschunk
  obtain ⟨xs, n, hf, hx, hcl, hxl, hfield⟩ := DataW.trod_struct hu h
  have hc3 : Try.prog.cellsOf 48 = 15 := by kernel_rfl
  rw [hc3] at hcl
  have hfl : fs.size = 15 := by
    have := congrArg Array.size hfs
    simpa using this
  rw [hfl] at hxl
  subst hx
  simp only [DataW.weights, hu] at hsz
  have htypes : fs.toList.map (fun f => f.type) = [43, 5, 22, 37, 37, 22, 22, 22, 37, 37, 44, 44, 45, 38, 46] := by
    have := congrArg (fun l => l.toList.map (·.2)) hfs
    simpa [Function.comp_def] using this
  rw [htypes] at hsz
  have wt : ∀ (i : Nat) (t : TypeId) (y : DataW H × List MemPlace), ([43, 5, 22, 37, 37, 22, 22, 22, 37, 37, 44, 44, 45, 38, 46] : List TypeId)[i]? = some t → xs[i]? = some y → (y.1.weights Try.prog t).all (· ≤ reachBytes) = true := by
    intro i t y ht hy
    refine List.all_eq_true.2 fun m hm => List.all_eq_true.1 hsz m (DataW.weights_mem_each (j := i) ht (by rw [List.getElem?_map, hy]; rfl) m hm)
  obtain ⟨v0, v1, v2, v3, v4, v5, v6, v7, v8, v9, v10, v11, v12, v13, v14, rfl⟩ := listchunk hcl
  obtain ⟨y0, y1, y2, y3, y4, y5, y6, y7, y8, y9, y10, y11, y12, y13, y14, rfl⟩ := listchunk hxl
  obtain ⟨q0, k0, o0, t0⟩ := field_at hfs (i := 0) (o := 0) (t := 43) rfl
  have g0 := hfield 0 q0 k0
  rw [o0, t0, show Try.prog.cellsOf 43 = 1 by kernel_rfl] at g0
  simp only [List.drop_zero, List.take_succ_cons, List.take_zero, List.getElem?_cons_zero] at g0
  obtain ⟨n0, e0, _, w0⟩ := DataW.trod_int Try.underlying43 g0
  obtain rfl : v0 = .int .u8 n0 := by simpa using e0
  obtain ⟨q1, k1, o1, t1⟩ := field_at hfs (i := 1) (o := 1) (t := 5) rfl
  have g1 := hfield 1 q1 k1
  rw [o1, t1, show Try.prog.cellsOf 5 = 1 by kernel_rfl] at g1
  simp only [List.drop_succ_cons, List.drop_zero, List.take_succ_cons, List.take_zero, List.getElem?_cons_zero, List.getElem?_cons_succ] at g1
  obtain ⟨n1, e1, _, w1⟩ := DataW.trod_int Try.underlying5 g1
  obtain rfl : v1 = .int .u8 n1 := by simpa using e1
  obtain ⟨q2, k2, o2, t2⟩ := field_at hfs (i := 2) (o := 2) (t := 22) rfl
  have g2 := hfield 2 q2 k2
  rw [o2, t2, show Try.prog.cellsOf 22 = 1 by kernel_rfl] at g2
  simp only [List.drop_succ_cons, List.drop_zero, List.take_succ_cons, List.take_zero, List.getElem?_cons_zero, List.getElem?_cons_succ] at g2
  obtain ⟨n2, e2, _, w2⟩ := DataW.trod_int Try.underlying22 g2
  obtain rfl : v2 = .int .u32 n2 := by simpa using e2
  obtain ⟨q3, k3, o3, t3⟩ := field_at hfs (i := 3) (o := 3) (t := 37) rfl
  have g3 := hfield 3 q3 k3
  rw [o3, t3, show Try.prog.cellsOf 37 = 1 by kernel_rfl] at g3
  simp only [List.drop_succ_cons, List.drop_zero, List.take_succ_cons, List.take_zero, List.getElem?_cons_zero, List.getElem?_cons_succ] at g3
  obtain ⟨n3, e3, _, w3⟩ := DataW.trod_int Try.underlying37 g3
  obtain rfl : v3 = .int .u16 n3 := by simpa using e3
  obtain ⟨q4, k4, o4, t4⟩ := field_at hfs (i := 4) (o := 4) (t := 37) rfl
  have g4 := hfield 4 q4 k4
  rw [o4, t4, show Try.prog.cellsOf 37 = 1 by kernel_rfl] at g4
  simp only [List.drop_succ_cons, List.drop_zero, List.take_succ_cons, List.take_zero, List.getElem?_cons_zero, List.getElem?_cons_succ] at g4
  obtain ⟨n4, e4, _, w4⟩ := DataW.trod_int Try.underlying37 g4
  obtain rfl : v4 = .int .u16 n4 := by simpa using e4
  obtain ⟨q5, k5, o5, t5⟩ := field_at hfs (i := 5) (o := 5) (t := 22) rfl
  have g5 := hfield 5 q5 k5
  rw [o5, t5, show Try.prog.cellsOf 22 = 1 by kernel_rfl] at g5
  simp only [List.drop_succ_cons, List.drop_zero, List.take_succ_cons, List.take_zero, List.getElem?_cons_zero, List.getElem?_cons_succ] at g5
  obtain ⟨n5, e5, _, w5⟩ := DataW.trod_int Try.underlying22 g5
  obtain rfl : v5 = .int .u32 n5 := by simpa using e5
  obtain ⟨q6, k6, o6, t6⟩ := field_at hfs (i := 6) (o := 6) (t := 22) rfl
  have g6 := hfield 6 q6 k6
  rw [o6, t6, show Try.prog.cellsOf 22 = 1 by kernel_rfl] at g6
  simp only [List.drop_succ_cons, List.drop_zero, List.take_succ_cons, List.take_zero, List.getElem?_cons_zero, List.getElem?_cons_succ] at g6
  obtain ⟨n6, e6, _, w6⟩ := DataW.trod_int Try.underlying22 g6
  obtain rfl : v6 = .int .u32 n6 := by simpa using e6
  obtain ⟨q7, k7, o7, t7⟩ := field_at hfs (i := 7) (o := 7) (t := 22) rfl
  have g7 := hfield 7 q7 k7
  rw [o7, t7, show Try.prog.cellsOf 22 = 1 by kernel_rfl] at g7
  simp only [List.drop_succ_cons, List.drop_zero, List.take_succ_cons, List.take_zero, List.getElem?_cons_zero, List.getElem?_cons_succ] at g7
  obtain ⟨n7, e7, _, w7⟩ := DataW.trod_int Try.underlying22 g7
  obtain rfl : v7 = .int .u32 n7 := by simpa using e7
  obtain ⟨q8, k8, o8, t8⟩ := field_at hfs (i := 8) (o := 8) (t := 37) rfl
  have g8 := hfield 8 q8 k8
  rw [o8, t8, show Try.prog.cellsOf 37 = 1 by kernel_rfl] at g8
  simp only [List.drop_succ_cons, List.drop_zero, List.take_succ_cons, List.take_zero, List.getElem?_cons_zero, List.getElem?_cons_succ] at g8
  obtain ⟨n8, e8, _, w8⟩ := DataW.trod_int Try.underlying37 g8
  obtain rfl : v8 = .int .u16 n8 := by simpa using e8
  obtain ⟨q9, k9, o9, t9⟩ := field_at hfs (i := 9) (o := 9) (t := 37) rfl
  have g9 := hfield 9 q9 k9
  rw [o9, t9, show Try.prog.cellsOf 37 = 1 by kernel_rfl] at g9
  simp only [List.drop_succ_cons, List.drop_zero, List.take_succ_cons, List.take_zero, List.getElem?_cons_zero, List.getElem?_cons_succ] at g9
  obtain ⟨n9, e9, _, w9⟩ := DataW.trod_int Try.underlying37 g9
  obtain rfl : v9 = .int .u16 n9 := by simpa using e9
  obtain ⟨q10, k10, o10, t10⟩ := field_at hfs (i := 10) (o := 10) (t := 44) rfl
  have g10 := hfield 10 q10 k10
  rw [o10, t10, show Try.prog.cellsOf 44 = 1 by kernel_rfl] at g10
  simp only [List.drop_succ_cons, List.drop_zero, List.take_succ_cons, List.take_zero, List.getElem?_cons_zero, List.getElem?_cons_succ] at g10
  obtain ⟨a10, l10, c10, z10, e10, hr10, hl10, hb10⟩ := gaps_of g10 (wt 10 44 y10 rfl rfl)
  obtain rfl : v10 = .slice a10 l10 c10 := by simpa using e10
  obtain ⟨q11, k11, o11, t11⟩ := field_at hfs (i := 11) (o := 11) (t := 44) rfl
  have g11 := hfield 11 q11 k11
  rw [o11, t11, show Try.prog.cellsOf 44 = 1 by kernel_rfl] at g11
  simp only [List.drop_succ_cons, List.drop_zero, List.take_succ_cons, List.take_zero, List.getElem?_cons_zero, List.getElem?_cons_succ] at g11
  obtain ⟨a11, l11, c11, z11, e11, hr11, hl11, hb11⟩ := gaps_of g11 (wt 11 44 y11 rfl rfl)
  obtain rfl : v11 = .slice a11 l11 c11 := by simpa using e11
  obtain ⟨q12, k12, o12, t12⟩ := field_at hfs (i := 12) (o := 12) (t := 45) rfl
  have g12 := hfield 12 q12 k12
  rw [o12, t12, show Try.prog.cellsOf 45 = 1 by kernel_rfl] at g12
  simp only [List.drop_succ_cons, List.drop_zero, List.take_succ_cons, List.take_zero, List.getElem?_cons_zero, List.getElem?_cons_succ] at g12
  obtain ⟨a12, l12, c12, e12⟩ := shape_of Try.underlying45 g12
  obtain rfl : v12 = .slice a12 l12 c12 := by simpa using e12
  obtain ⟨q13, k13, o13, t13⟩ := field_at hfs (i := 13) (o := 13) (t := 38) rfl
  have g13 := hfield 13 q13 k13
  rw [o13, t13, show Try.prog.cellsOf 38 = 1 by kernel_rfl] at g13
  simp only [List.drop_succ_cons, List.drop_zero, List.take_succ_cons, List.take_zero, List.getElem?_cons_zero, List.getElem?_cons_succ] at g13
  obtain ⟨a13, l13, c13, e13⟩ := shape_of Try.underlying38 g13
  obtain rfl : v13 = .slice a13 l13 c13 := by simpa using e13
  obtain ⟨q14, k14, o14, t14⟩ := field_at hfs (i := 14) (o := 14) (t := 46) rfl
  have g14 := hfield 14 q14 k14
  rw [o14, t14, show Try.prog.cellsOf 46 = 1 by kernel_rfl] at g14
  simp only [List.drop_succ_cons, List.drop_zero, List.take_succ_cons, List.take_zero, List.getElem?_cons_zero, List.getElem?_cons_succ] at g14
  obtain ⟨a14, l14, c14, e14⟩ := shape_of Try.underlying46 g14
  obtain rfl : v14 = .slice a14 l14 c14 := by simpa using e14
  refine ⟨⟨⟨n0, n1, n2, n3, n4, n5, n6, n7, n8, n9, a10, l10, c10, a11, l11, c11, a12, l12, c12, a13, l13, c13, a14, l14, c14⟩, z10, z11⟩, rfl, ⟨hr10, hr11, (u32_bounds w2).1, (u32_bounds w2).2, hl10, hl11⟩, ?_⟩
  have hp := bulk_part (H := H) (d := y10.1) (l := [y0, y1, y2, y3, y4, y5, y6, y7, y8, y9, y10, y11, y12, y13, y14].map (·.1)) (by simp)
  simp only [Rows.uptoBulk]
  omega
set_option maxRecDepth 20000 in
theorem chunk_arg {v : Value} {base2 : Nat} (hval : Value.okWide Try.prog W .any base2 48 v) (h : DataW.trod enc Try.prog W base (fun _ => true) held fuel 48 v.cells.toList = some x) (hsz : (x.1.weights Try.prog 48).all (· ≤ reachBytes) = true) : ∃ q : QA, v = kv q.c ∧ OkQ W q ∧ q.gs.length ≤ Rows.uptoBulk x.1 := by
  obtain ⟨fs, hu, hfs⟩ := fieldschunk
  obtain ⟨cs, rfl, _⟩ := okWide_struct hu hval
  obtain ⟨q, hq, h2, h3⟩ := chunk_of h hsz
  refine ⟨q, ?_, h2, h3⟩
  have e : cs.toList = (kcs q.c).toList := hq
  rw [Array.toList_inj] at e
  rw [e]
  rfl
theorem bools_arg {a : Option Addr} {n cap : Nat} (h : DataW.trod enc Try.prog W base (fun _ => true) held fuel 60 (Value.slice a n cap).cells.toList = some x) (hsz : (x.1.weights Try.prog 60).all (· ≤ reachBytes) = true) : ∃ zs, Bools W a n zs := by
  have hb : Try.prog.bytesOf 4 = 1 := by kernel_rfl
  obtain ⟨qs, h1, h2, h3, h4, h5, _, h7, _⟩ := rows_of (X := Bool) (cells := fun z => [.bool z]) (ok := fun _ => True) (fun _ => 0) (k := 1) (E := 4) (by kernel_rfl) (by decide) (fun q => rfl) (fun {fuel cl x} h hs => by
    obtain ⟨s, e, _⟩ := DataW.trod_bool Try.underlying4 h
    exact ⟨s, e, trivial, Nat.zero_le _⟩) Try.underlying60 h hsz
  rw [hb] at h5
  exact ⟨qs, h1, h2, by omega, h3⟩
set_option maxRecDepth 100000 in
theorem listmsg {α : Type} {l : List α} (h : l.length = 5) : ∃ v0 v1 v2 v3 v4, l = [v0, v1, v2, v3, v4] := by
  match l, h with
  | [v0, v1, v2, v3, v4], _ => exact ⟨v0, v1, v2, v3, v4, rfl⟩
theorem fieldsmsg : ∃ fs : Array Field, Try.prog.underlying 40 = some (.struct fs) ∧ fs.map (fun f => (f.offset, f.type)) = #[(0, 37), (1, 37), (2, 22), (3, 4), (4, 38)] := ⟨_, Try.underlying40, by simp⟩
set_option maxRecDepth 20000 in
set_option maxHeartbeats 1000000 in
theorem msg_of (h : DataW.trod enc Try.prog W base (fun _ => true) held fuel 40 cl = some x) (hsz : (x.1.weights Try.prog 40).all (· ≤ reachBytes) = true) : ∃ q : MA, cl = mcell q ∧ OkM W q ∧ 0 ≤ Rows.uptoBulk x.1 := by
  obtain ⟨fs, hu, hfs⟩ := fieldsmsg
  obtain ⟨xs, n, hf, hx, hcl, hxl, hfield⟩ := DataW.trod_struct hu h
  have hc3 : Try.prog.cellsOf 40 = 5 := by kernel_rfl
  rw [hc3] at hcl
  have hfl : fs.size = 5 := by
    have := congrArg Array.size hfs
    simpa using this
  rw [hfl] at hxl
  subst hx
  simp only [DataW.weights, hu] at hsz
  have htypes : fs.toList.map (fun f => f.type) = [37, 37, 22, 4, 38] := by
    have := congrArg (fun l => l.toList.map (·.2)) hfs
    simpa [Function.comp_def] using this
  rw [htypes] at hsz
  have wt : ∀ (i : Nat) (t : TypeId) (y : DataW H × List MemPlace), ([37, 37, 22, 4, 38] : List TypeId)[i]? = some t → xs[i]? = some y → (y.1.weights Try.prog t).all (· ≤ reachBytes) = true := by
    intro i t y ht hy
    refine List.all_eq_true.2 fun m hm => List.all_eq_true.1 hsz m (DataW.weights_mem_each (j := i) ht (by rw [List.getElem?_map, hy]; rfl) m hm)
  obtain ⟨v0, v1, v2, v3, v4, rfl⟩ := listmsg hcl
  obtain ⟨y0, y1, y2, y3, y4, rfl⟩ := listmsg hxl
  obtain ⟨q0, k0, o0, t0⟩ := field_at hfs (i := 0) (o := 0) (t := 37) rfl
  have g0 := hfield 0 q0 k0
  rw [o0, t0, show Try.prog.cellsOf 37 = 1 by kernel_rfl] at g0
  simp only [List.drop_zero, List.take_succ_cons, List.take_zero, List.getElem?_cons_zero] at g0
  obtain ⟨n0, e0, _, w0⟩ := DataW.trod_int Try.underlying37 g0
  obtain rfl : v0 = .int .u16 n0 := by simpa using e0
  obtain ⟨q1, k1, o1, t1⟩ := field_at hfs (i := 1) (o := 1) (t := 37) rfl
  have g1 := hfield 1 q1 k1
  rw [o1, t1, show Try.prog.cellsOf 37 = 1 by kernel_rfl] at g1
  simp only [List.drop_succ_cons, List.drop_zero, List.take_succ_cons, List.take_zero, List.getElem?_cons_zero, List.getElem?_cons_succ] at g1
  obtain ⟨n1, e1, _, w1⟩ := DataW.trod_int Try.underlying37 g1
  obtain rfl : v1 = .int .u16 n1 := by simpa using e1
  obtain ⟨q2, k2, o2, t2⟩ := field_at hfs (i := 2) (o := 2) (t := 22) rfl
  have g2 := hfield 2 q2 k2
  rw [o2, t2, show Try.prog.cellsOf 22 = 1 by kernel_rfl] at g2
  simp only [List.drop_succ_cons, List.drop_zero, List.take_succ_cons, List.take_zero, List.getElem?_cons_zero, List.getElem?_cons_succ] at g2
  obtain ⟨n2, e2, _, w2⟩ := DataW.trod_int Try.underlying22 g2
  obtain rfl : v2 = .int .u32 n2 := by simpa using e2
  obtain ⟨q3, k3, o3, t3⟩ := field_at hfs (i := 3) (o := 3) (t := 4) rfl
  have g3 := hfield 3 q3 k3
  rw [o3, t3, show Try.prog.cellsOf 4 = 1 by kernel_rfl] at g3
  simp only [List.drop_succ_cons, List.drop_zero, List.take_succ_cons, List.take_zero, List.getElem?_cons_zero, List.getElem?_cons_succ] at g3
  obtain ⟨n3, e3, _⟩ := DataW.trod_bool Try.underlying4 g3
  obtain rfl : v3 = .bool n3 := by simpa using e3
  obtain ⟨q4, k4, o4, t4⟩ := field_at hfs (i := 4) (o := 4) (t := 38) rfl
  have g4 := hfield 4 q4 k4
  rw [o4, t4, show Try.prog.cellsOf 38 = 1 by kernel_rfl] at g4
  simp only [List.drop_succ_cons, List.drop_zero, List.take_succ_cons, List.take_zero, List.getElem?_cons_zero, List.getElem?_cons_succ] at g4
  obtain ⟨a4, l4, c4, z4, e4, hr4, h14, h24, h34, hb4⟩ := row_of g4 (wt 4 38 y4 rfl rfl)
  obtain rfl : v4 = .slice a4 l4 c4 := by simpa using e4
  refine ⟨⟨n0, n1, n2, n3, a4, l4, c4, z4⟩, rfl, ⟨hr4, h34⟩, ?_⟩
  exact Nat.zero_le _
set_option maxRecDepth 100000 in
theorem listprt {α : Type} {l : List α} (h : l.length = 7) : ∃ v0 v1 v2 v3 v4 v5 v6, l = [v0, v1, v2, v3, v4, v5, v6] := by
  match l, h with
  | [v0, v1, v2, v3, v4, v5, v6], _ => exact ⟨v0, v1, v2, v3, v4, v5, v6, rfl⟩
theorem listfprt {α : Type} {l : List α} (h : l.length = 3) : ∃ y0 y1 y2, l = [y0, y1, y2] := by
  match l, h with
  | [y0, y1, y2], _ => exact ⟨y0, y1, y2, rfl⟩
theorem fieldsprt : ∃ fs : Array Field, Try.prog.underlying 42 = some (.struct fs) ∧ fs.map (fun f => (f.offset, f.type)) = #[(0, 40), (5, 4), (6, 4)] := ⟨_, Try.underlying42, by simp⟩
set_option maxRecDepth 20000 in
set_option maxHeartbeats 1000000 in
theorem prt_of (h : DataW.trod enc Try.prog W base (fun _ => true) held fuel 42 cl = some x) (hsz : (x.1.weights Try.prog 42).all (· ≤ reachBytes) = true) : ∃ q : PA, cl = pcell q ∧ OkP W q ∧ 0 ≤ Rows.uptoBulk x.1 := by
  obtain ⟨fs, hu, hfs⟩ := fieldsprt
  obtain ⟨xs, n, hf, hx, hcl, hxl, hfield⟩ := DataW.trod_struct hu h
  have hc3 : Try.prog.cellsOf 42 = 7 := by kernel_rfl
  rw [hc3] at hcl
  have hfl : fs.size = 3 := by
    have := congrArg Array.size hfs
    simpa using this
  rw [hfl] at hxl
  subst hx
  simp only [DataW.weights, hu] at hsz
  have htypes : fs.toList.map (fun f => f.type) = [40, 4, 4] := by
    have := congrArg (fun l => l.toList.map (·.2)) hfs
    simpa [Function.comp_def] using this
  rw [htypes] at hsz
  have wt : ∀ (i : Nat) (t : TypeId) (y : DataW H × List MemPlace), ([40, 4, 4] : List TypeId)[i]? = some t → xs[i]? = some y → (y.1.weights Try.prog t).all (· ≤ reachBytes) = true := by
    intro i t y ht hy
    refine List.all_eq_true.2 fun m hm => List.all_eq_true.1 hsz m (DataW.weights_mem_each (j := i) ht (by rw [List.getElem?_map, hy]; rfl) m hm)
  obtain ⟨v0, v1, v2, v3, v4, v5, v6, rfl⟩ := listprt hcl
  obtain ⟨y0, y1, y2, rfl⟩ := listfprt hxl
  obtain ⟨q0, k0, o0, t0⟩ := field_at hfs (i := 0) (o := 0) (t := 40) rfl
  have g0 := hfield 0 q0 k0
  rw [o0, t0, show Try.prog.cellsOf 40 = 5 by kernel_rfl] at g0
  simp only [List.drop_zero, List.take_succ_cons, List.take_zero, List.getElem?_cons_zero] at g0
  obtain ⟨s0, e0, ok0, hb0⟩ := msg_of g0 (wt 0 40 y0 rfl rfl)
  simp only [mcell, List.cons.injEq, and_true] at e0
  obtain ⟨rfl, rfl, rfl, rfl, rfl⟩ := e0
  obtain ⟨q1, k1, o1, t1⟩ := field_at hfs (i := 1) (o := 5) (t := 4) rfl
  have g1 := hfield 1 q1 k1
  rw [o1, t1, show Try.prog.cellsOf 4 = 1 by kernel_rfl] at g1
  simp only [List.drop_succ_cons, List.drop_zero, List.take_succ_cons, List.take_zero, List.getElem?_cons_zero, List.getElem?_cons_succ] at g1
  obtain ⟨n1, e1, _⟩ := DataW.trod_bool Try.underlying4 g1
  obtain rfl : v5 = .bool n1 := by simpa using e1
  obtain ⟨q2, k2, o2, t2⟩ := field_at hfs (i := 2) (o := 6) (t := 4) rfl
  have g2 := hfield 2 q2 k2
  rw [o2, t2, show Try.prog.cellsOf 4 = 1 by kernel_rfl] at g2
  simp only [List.drop_succ_cons, List.drop_zero, List.take_succ_cons, List.take_zero, List.getElem?_cons_zero, List.getElem?_cons_succ] at g2
  obtain ⟨n2, e2, _⟩ := DataW.trod_bool Try.underlying4 g2
  obtain rfl : v6 = .bool n2 := by simpa using e2
  refine ⟨⟨s0, n1, n2⟩, rfl, ok0, ?_⟩
  exact Nat.zero_le _
set_option maxRecDepth 100000 in
theorem listop {α : Type} {l : List α} (h : l.length = 26) : ∃ v0 v1 v2 v3 v4 v5 v6 v7 v8 v9 v10 v11 v12 v13 v14 v15 v16 v17 v18 v19 v20 v21 v22 v23 v24 v25, l = [v0, v1, v2, v3, v4, v5, v6, v7, v8, v9, v10, v11, v12, v13, v14, v15, v16, v17, v18, v19, v20, v21, v22, v23, v24, v25] := by
  match l, h with
  | [v0, v1, v2, v3, v4, v5, v6, v7, v8, v9, v10, v11, v12, v13, v14, v15, v16, v17, v18, v19, v20, v21, v22, v23, v24, v25], _ => exact ⟨v0, v1, v2, v3, v4, v5, v6, v7, v8, v9, v10, v11, v12, v13, v14, v15, v16, v17, v18, v19, v20, v21, v22, v23, v24, v25, rfl⟩
theorem listfop {α : Type} {l : List α} (h : l.length = 6) : ∃ y0 y1 y2 y3 y4 y5, l = [y0, y1, y2, y3, y4, y5] := by
  match l, h with
  | [y0, y1, y2, y3, y4, y5], _ => exact ⟨y0, y1, y2, y3, y4, y5, rfl⟩
theorem fieldsop : ∃ fs : Array Field, Try.prog.underlying 50 = some (.struct fs) ∧ fs.map (fun f => (f.offset, f.type)) = #[(0, 3), (1, 3), (2, 3), (3, 42), (10, 22), (11, 48)] := ⟨_, Try.underlying50, by simp⟩
set_option maxRecDepth 20000 in
set_option maxHeartbeats 1000000 in
theorem op_of (h : DataW.trod enc Try.prog W base (fun _ => true) held fuel 50 cl = some x) (hsz : (x.1.weights Try.prog 50).all (· ≤ reachBytes) = true) : ∃ q : OA, cl = ocell q ∧ OkO W q ∧ 0 ≤ Rows.uptoBulk x.1 := by
  obtain ⟨fs, hu, hfs⟩ := fieldsop
  obtain ⟨xs, n, hf, hx, hcl, hxl, hfield⟩ := DataW.trod_struct hu h
  have hc3 : Try.prog.cellsOf 50 = 26 := by kernel_rfl
  rw [hc3] at hcl
  have hfl : fs.size = 6 := by
    have := congrArg Array.size hfs
    simpa using this
  rw [hfl] at hxl
  subst hx
  simp only [DataW.weights, hu] at hsz
  have htypes : fs.toList.map (fun f => f.type) = [3, 3, 3, 42, 22, 48] := by
    have := congrArg (fun l => l.toList.map (·.2)) hfs
    simpa [Function.comp_def] using this
  rw [htypes] at hsz
  have wt : ∀ (i : Nat) (t : TypeId) (y : DataW H × List MemPlace), ([3, 3, 3, 42, 22, 48] : List TypeId)[i]? = some t → xs[i]? = some y → (y.1.weights Try.prog t).all (· ≤ reachBytes) = true := by
    intro i t y ht hy
    refine List.all_eq_true.2 fun m hm => List.all_eq_true.1 hsz m (DataW.weights_mem_each (j := i) ht (by rw [List.getElem?_map, hy]; rfl) m hm)
  obtain ⟨v0, v1, v2, v3, v4, v5, v6, v7, v8, v9, v10, v11, v12, v13, v14, v15, v16, v17, v18, v19, v20, v21, v22, v23, v24, v25, rfl⟩ := listop hcl
  obtain ⟨y0, y1, y2, y3, y4, y5, rfl⟩ := listfop hxl
  obtain ⟨q0, k0, o0, t0⟩ := field_at hfs (i := 0) (o := 0) (t := 3) rfl
  have g0 := hfield 0 q0 k0
  rw [o0, t0, show Try.prog.cellsOf 3 = 1 by kernel_rfl] at g0
  simp only [List.drop_zero, List.take_succ_cons, List.take_zero, List.getElem?_cons_zero] at g0
  obtain ⟨n0, e0, _, w0⟩ := DataW.trod_int Try.underlying3 g0
  obtain rfl : v0 = .int .i64 n0 := by simpa using e0
  obtain ⟨q1, k1, o1, t1⟩ := field_at hfs (i := 1) (o := 1) (t := 3) rfl
  have g1 := hfield 1 q1 k1
  rw [o1, t1, show Try.prog.cellsOf 3 = 1 by kernel_rfl] at g1
  simp only [List.drop_succ_cons, List.drop_zero, List.take_succ_cons, List.take_zero, List.getElem?_cons_zero, List.getElem?_cons_succ] at g1
  obtain ⟨n1, e1, _, w1⟩ := DataW.trod_int Try.underlying3 g1
  obtain rfl : v1 = .int .i64 n1 := by simpa using e1
  obtain ⟨q2, k2, o2, t2⟩ := field_at hfs (i := 2) (o := 2) (t := 3) rfl
  have g2 := hfield 2 q2 k2
  rw [o2, t2, show Try.prog.cellsOf 3 = 1 by kernel_rfl] at g2
  simp only [List.drop_succ_cons, List.drop_zero, List.take_succ_cons, List.take_zero, List.getElem?_cons_zero, List.getElem?_cons_succ] at g2
  obtain ⟨n2, e2, _, w2⟩ := DataW.trod_int Try.underlying3 g2
  obtain rfl : v2 = .int .i64 n2 := by simpa using e2
  obtain ⟨q3, k3, o3, t3⟩ := field_at hfs (i := 3) (o := 3) (t := 42) rfl
  have g3 := hfield 3 q3 k3
  rw [o3, t3, show Try.prog.cellsOf 42 = 7 by kernel_rfl] at g3
  simp only [List.drop_succ_cons, List.drop_zero, List.take_succ_cons, List.take_zero, List.getElem?_cons_zero, List.getElem?_cons_succ] at g3
  obtain ⟨s3, e3, ok3, hb3⟩ := prt_of g3 (wt 3 42 y3 rfl rfl)
  simp only [pcell, List.cons.injEq, and_true] at e3
  obtain ⟨rfl, rfl, rfl, rfl, rfl, rfl, rfl⟩ := e3
  obtain ⟨q4, k4, o4, t4⟩ := field_at hfs (i := 4) (o := 10) (t := 22) rfl
  have g4 := hfield 4 q4 k4
  rw [o4, t4, show Try.prog.cellsOf 22 = 1 by kernel_rfl] at g4
  simp only [List.drop_succ_cons, List.drop_zero, List.take_succ_cons, List.take_zero, List.getElem?_cons_zero, List.getElem?_cons_succ] at g4
  obtain ⟨n4, e4, _, w4⟩ := DataW.trod_int Try.underlying22 g4
  obtain rfl : v10 = .int .u32 n4 := by simpa using e4
  obtain ⟨q5, k5, o5, t5⟩ := field_at hfs (i := 5) (o := 11) (t := 48) rfl
  have g5 := hfield 5 q5 k5
  rw [o5, t5, show Try.prog.cellsOf 48 = 15 by kernel_rfl] at g5
  simp only [List.drop_succ_cons, List.drop_zero, List.take_succ_cons, List.take_zero, List.getElem?_cons_zero, List.getElem?_cons_succ] at g5
  obtain ⟨s5, e5, ok5, hb5⟩ := chunk_of g5 (wt 5 48 y5 rfl rfl)
  simp only [qcell, kcs, List.cons.injEq, and_true] at e5
  obtain ⟨rfl, rfl, rfl, rfl, rfl, rfl, rfl, rfl, rfl, rfl, rfl, rfl, rfl, rfl, rfl⟩ := e5
  refine ⟨⟨n0, n1, n2, s3, n4, s5⟩, rfl, ⟨ok3, ok5, u32_bounds w4⟩, ?_⟩
  exact Nat.zero_le _
theorem ops_arg {a : Option Addr} {n cap : Nat} (h : DataW.trod enc Try.prog W base (fun _ => true) held fuel 23 (Value.slice a n cap).cells.toList = some x) (hsz : (x.1.weights Try.prog 23).all (· ≤ reachBytes) = true) : ∃ zs, Ops W a n zs := by
  haveI : Inhabited OA := ⟨⟨0, 0, 0, ⟨⟨0, 0, 0, false, none, 0, 0, []⟩, false, false⟩, 0, ⟨⟨0, 0, 0, 0, 0, 0, 0, 0, 0, 0, none, 0, 0, none, 0, 0, none, 0, 0, none, 0, 0, none, 0, 0⟩, [], []⟩⟩⟩
  obtain ⟨qs, h1, h2, h3, h4, h5, _, h7, _⟩ := rows_of (X := OA) (cells := ocell) (ok := OkO W) (fun q => 0) (k := 26) (by kernel_rfl) (by decide) (fun q => rfl) op_of Try.underlying23 h hsz
  have hb : 1 ≤ Try.prog.bytesOf 50 := by decide +kernel
  have : cap ≤ cap * Try.prog.bytesOf 50 := Nat.le_mul_of_pos_right _ hb
  exact ⟨qs, h1, h2, by omega, h3⟩
end
end Go.Proofs.Ytjceeckcfjjkkaa.Ob
