/-
  What came in: a row of acts.
  Conditions: the row was read as the statements read it.
-/
import Derived.Test.YtmogacccffkkbaaNtSm
import Derived.Test.YtmogacccffkkbaaAg
namespace Go.Proofs.Ytmogacccffkkbaa.Nt
open Go.ChangeShapes Go.WideShapes Go.ChangeAt Go.RowKit Go.Deep
open Ba (hidden Only In Has own_ne own_stay own_len own_some own_mono cell_lt heap_lt)
set_option linter.unusedVariables false
/-- an act and where its bytes lie -/
abbrev Oq := Op × Option Addr × Nat × Nat
def zoq : Oq := (⟨0, 0, 0, 0, 0, 0, 0, []⟩, none, 0, 0)
theorem cell_ato {L : List Oq} {j : Nat} (h : j < L.length) : L[j]? = some (L.getD j zoq) := by
  rw [List.getD_eq_getElem?_getD, List.getElem?_eq_getElem h]; rfl
def oc (z : Oq) : List Value := opc z.1 z.2.1 z.2.2.1 z.2.2.2
theorem u8_bounds {n : Int} (h : (Lit.int .u8 n).wf = true) : 0 ≤ n ∧ n < 256 := by
  simp [Lit.wf, IntKind.min, IntKind.max, IntKind.signed, IntKind.bits] at h
  omega
/-- bytes that came in -/
abbrev InB (w : World) (a : Option Addr) (n : Nat) (bs : List Int) : Prop := Ag.Rows (fun n : Int => [.int .u8 n]) (fun n => (Lit.int .u8 n).wf = true) 1 w a n bs
theorem InB.by {w : World} {a : Option Addr} {n : Nat} {bs : List Int} (h : InB w a n bs) : By w.heap.size w a n bs := by
  obtain ⟨h1, h2, h3, h4⟩ := h
  refine ⟨h1, fun z hz => u8_bounds (h2 z hz), h4.imp id ?_⟩
  rintro ⟨b, off, rfl, hb, hc⟩
  refine ⟨b, off, rfl, hb, .inl hb, fun j hj => ?_⟩
  have := hc j (bs.getD j 0) (by rw [List.getD_eq_getElem?_getD, List.getElem?_eq_getElem (by omega)]; rfl) 0 _ rfl
  simpa using this
def OpOk (w : World) (z : Oq) : Prop := InB w z.2.1 z.2.2.1 z.1.bs ∧ (z.2.1 = none → z.2.2.2 = 0) ∧ 0 ≤ z.1.bits ∧ z.1.bits < 256
/-- a row of acts -/
def OpsR (w : World) (a : Option Addr) (n : Nat) (zs : List Oq) : Prop :=
  zs.length = n ∧ (∀ z ∈ zs, OpOk w z) ∧ n ≤ 140737488355328 ∧ (n = 0 ∨ ∃ b off, a = some ⟨b, off, none⟩ ∧ b < w.heap.size ∧ ∀ j z, zs[j]? = some z → ∀ c u, (oc z)[c]? = some u → w.cell? ⟨b, off + j * 8 + c, none⟩ = some u)
theorem field_at {fs : Array Field} {L : Array (Nat × TypeId)} (h : fs.map (fun f => (f.offset, f.type)) = L) {i o : Nat} {t : TypeId} (hi : L[i]? = some (o, t)) : ∃ f, fs[i]? = some f ∧ f.offset = o ∧ f.type = t := by
  rw [← h, Array.getElem?_map] at hi
  cases hf : fs[i]? with
  | none => rw [hf] at hi; cases hi
  | some f =>
    rw [hf] at hi
    simp at hi
    exact ⟨f, rfl, hi.1, hi.2⟩
theorem list8 {α : Type} {l : List α} (h : l.length = 8) : ∃ v0 v1 v2 v3 v4 v5 v6 v7, l = [v0, v1, v2, v3, v4, v5, v6, v7] := by
  match l, h with
  | [v0, v1, v2, v3, v4, v5, v6, v7], _ => exact ⟨v0, v1, v2, v3, v4, v5, v6, v7, rfl⟩
theorem fieldsO : ∃ fs : Array Field, Try.prog.underlying 34 = some (.struct fs) ∧ fs.map (fun f => (f.offset, f.type)) = #[(0, 3), (1, 3), (2, 3), (3, 3), (4, 3), (5, 3), (6, 5), (7, 32)] := ⟨_, Try.underlying34, by simp⟩
section
variable {H : Type} {enc : TypeId × Value → H} {W : World} {base : Nat} {held : Bool} {fuel : Nat} {cl : List Value} {x : DataW H × List MemPlace}
theorem op_of (h : DataW.trod enc Try.prog W base (fun _ => true) held fuel 34 cl = some x) (hsz : (x.1.weights Try.prog 34).all (· ≤ reachBytes) = true) : ∃ z : Oq, cl = oc z ∧ OpOk W z := by
  obtain ⟨fs, hu, hfs⟩ := fieldsO
  obtain ⟨xs, n, hf, hx, hcl, hxl, hfield⟩ := DataW.trod_struct hu h
  have hc8 : Try.prog.cellsOf 34 = 8 := by kernel_rfl
  rw [hc8] at hcl
  have hfl : fs.size = 8 := by
    have := congrArg Array.size hfs
    simpa using this
  rw [hfl] at hxl
  subst hx
  simp only [DataW.weights, hu] at hsz
  have htypes : fs.toList.map (fun f => f.type) = [3, 3, 3, 3, 3, 3, 5, 32] := by
    have := congrArg (fun l => l.toList.map (·.2)) hfs
    simpa [Function.comp_def] using this
  rw [htypes] at hsz
  have wt : ∀ (i : Nat) (t : TypeId) (y : DataW H × List MemPlace), ([3, 3, 3, 3, 3, 3, 5, 32] : List TypeId)[i]? = some t → xs[i]? = some y → (y.1.weights Try.prog t).all (· ≤ reachBytes) = true := by
    intro i t y ht hy
    refine List.all_eq_true.2 fun m hm => List.all_eq_true.1 hsz m (DataW.weights_mem_each (j := i) ht (by rw [List.getElem?_map, hy]; rfl) m hm)
  obtain ⟨v0, v1, v2, v3, v4, v5, v6, v7, rfl⟩ := list8 hcl
  obtain ⟨y0, y1, y2, y3, y4, y5, y6, y7, rfl⟩ := list8 hxl
  obtain ⟨q0, k0, o0, t0⟩ := field_at hfs (i := 0) (o := 0) (t := 3) rfl
  have g0 := hfield 0 q0 k0
  rw [o0, t0, show Try.prog.cellsOf 3 = 1 by kernel_rfl] at g0
  simp only [List.drop_zero, List.take_succ_cons, List.take_zero, List.getElem?_cons_zero] at g0
  obtain ⟨n0, e0, _, w0⟩ := DataW.trod_int Try.underlying3 g0
  obtain rfl : v0 = .int .i64 n0 := by simpa using e0
  obtain ⟨q1, k1, o1, t1⟩ := field_at hfs (i := 1) (o := 1) (t := 3) rfl
  have g1 := hfield 1 q1 k1
  rw [o1, t1, show Try.prog.cellsOf 3 = 1 by kernel_rfl] at g1
  simp only [List.drop_zero, List.drop_succ_cons, List.take_succ_cons, List.take_zero, List.getElem?_cons_zero, List.getElem?_cons_succ] at g1
  obtain ⟨n1, e1, _, w1⟩ := DataW.trod_int Try.underlying3 g1
  obtain rfl : v1 = .int .i64 n1 := by simpa using e1
  obtain ⟨q2, k2, o2, t2⟩ := field_at hfs (i := 2) (o := 2) (t := 3) rfl
  have g2 := hfield 2 q2 k2
  rw [o2, t2, show Try.prog.cellsOf 3 = 1 by kernel_rfl] at g2
  simp only [List.drop_zero, List.drop_succ_cons, List.take_succ_cons, List.take_zero, List.getElem?_cons_zero, List.getElem?_cons_succ] at g2
  obtain ⟨n2, e2, _, w2⟩ := DataW.trod_int Try.underlying3 g2
  obtain rfl : v2 = .int .i64 n2 := by simpa using e2
  obtain ⟨q3, k3, o3, t3⟩ := field_at hfs (i := 3) (o := 3) (t := 3) rfl
  have g3 := hfield 3 q3 k3
  rw [o3, t3, show Try.prog.cellsOf 3 = 1 by kernel_rfl] at g3
  simp only [List.drop_zero, List.drop_succ_cons, List.take_succ_cons, List.take_zero, List.getElem?_cons_zero, List.getElem?_cons_succ] at g3
  obtain ⟨n3, e3, _, w3⟩ := DataW.trod_int Try.underlying3 g3
  obtain rfl : v3 = .int .i64 n3 := by simpa using e3
  obtain ⟨q4, k4, o4, t4⟩ := field_at hfs (i := 4) (o := 4) (t := 3) rfl
  have g4 := hfield 4 q4 k4
  rw [o4, t4, show Try.prog.cellsOf 3 = 1 by kernel_rfl] at g4
  simp only [List.drop_zero, List.drop_succ_cons, List.take_succ_cons, List.take_zero, List.getElem?_cons_zero, List.getElem?_cons_succ] at g4
  obtain ⟨n4, e4, _, w4⟩ := DataW.trod_int Try.underlying3 g4
  obtain rfl : v4 = .int .i64 n4 := by simpa using e4
  obtain ⟨q5, k5, o5, t5⟩ := field_at hfs (i := 5) (o := 5) (t := 3) rfl
  have g5 := hfield 5 q5 k5
  rw [o5, t5, show Try.prog.cellsOf 3 = 1 by kernel_rfl] at g5
  simp only [List.drop_zero, List.drop_succ_cons, List.take_succ_cons, List.take_zero, List.getElem?_cons_zero, List.getElem?_cons_succ] at g5
  obtain ⟨n5, e5, _, w5⟩ := DataW.trod_int Try.underlying3 g5
  obtain rfl : v5 = .int .i64 n5 := by simpa using e5
  obtain ⟨q6, k6, o6, t6⟩ := field_at hfs (i := 6) (o := 6) (t := 5) rfl
  have g6 := hfield 6 q6 k6
  rw [o6, t6, show Try.prog.cellsOf 5 = 1 by kernel_rfl] at g6
  simp only [List.drop_zero, List.drop_succ_cons, List.take_succ_cons, List.take_zero, List.getElem?_cons_zero, List.getElem?_cons_succ] at g6
  obtain ⟨n6, e6, _, w6⟩ := DataW.trod_int Try.underlying5 g6
  obtain rfl : v6 = .int .u8 n6 := by simpa using e6
  obtain ⟨q7, k7, o7, t7⟩ := field_at hfs (i := 7) (o := 7) (t := 32) rfl
  have g7 := hfield 7 q7 k7
  rw [o7, t7, show Try.prog.cellsOf 32 = 1 by kernel_rfl] at g7
  simp only [List.drop_zero, List.drop_succ_cons, List.take_succ_cons, List.take_zero, List.getElem?_cons_zero, List.getElem?_cons_succ] at g7
  obtain ⟨a, m, cap, rfl⟩ : ∃ a m cap, v7 = .slice a m cap := by
    rcases open_slice Try.underlying32 g7 with ⟨hcs, _⟩ | ⟨ad, l, c, m, k, D, Pl, hcs, _⟩
    · exact ⟨none, 0, 0, by simpa using hcs⟩
    · exact ⟨some ad, l, c, by simpa using hcs⟩
  obtain ⟨zs, hr, _, _, hnil⟩ := Ag.rows_arg (Ag.kind_int Try.underlying5 (by kernel_rfl)) Try.underlying32 (Nat.le_of_ble_eq_true (by kernel_rfl)) (a := a) (n := m) (cap := cap) g7 (wt 7 32 y7 rfl rfl)
  exact ⟨(⟨n0, n1, n2, n3, n4, n5, n6, zs⟩, a, m, cap), rfl, hr, fun e => (hnil e).2, u8_bounds w6⟩
theorem ops_arg {a : Option Addr} {n cap : Nat} (h : DataW.trod enc Try.prog W base (fun _ => true) held fuel 22 (Value.slice a n cap).cells.toList = some x) (hsz : (x.1.weights Try.prog 22).all (· ≤ reachBytes) = true) :
    ∃ zs, OpsR W a n zs := by
  have hc8 : Try.prog.cellsOf 34 = 8 := by kernel_rfl
  have hb8 : 1 ≤ Try.prog.bytesOf 34 := Nat.le_of_ble_eq_true (by kernel_rfl)
  rcases open_slice Try.underlying22 h with ⟨hcs, _⟩ | ⟨ad, l, c, m, nn, Dt, Pl, hcs, _, hl, hm, hmm, rfl, hx⟩
  · simp [Value.cells] at hcs
    obtain ⟨rfl, rfl, rfl⟩ := hcs
    exact ⟨[], rfl, by simp, by decide, .inl rfl⟩
  · simp [Value.cells] at hcs
    obtain ⟨rfl, rfl, rfl⟩ := hcs
    simp only [if_pos] at hmm
    subst hmm
    simp only [DataW.weights, Try.underlying22, List.all_cons, Bool.and_eq_true, decide_eq_true_eq, List.all_append, List.length_map, List.length_range] at hsz
    obtain ⟨hs1, hs2, _⟩ := hsz
    have hcb : m * Try.prog.bytesOf 34 ≤ 140737488351232 := by
      unfold reachBytes at hs1
      rw [show n + (m - n) = m by omega] at hs1
      exact hs1
    have hcn : m ≤ 140737488351232 := Nat.le_trans (Nat.le_mul_of_pos_right m hb8) hcb
    have each : ∀ i, i < n → ∃ q : Oq, OpOk W q ∧ ∀ j u, (oc q)[j]? = some u → W.cell? (ad.add (i * 8 + j)) = some u := by
      intro i hi
      obtain ⟨cs', h1, h2⟩ := hx i (by omega)
      rw [hc8] at h1
      obtain ⟨_, hlen, hcell⟩ := World.cells?_some h1
      obtain ⟨q, rfl, hq⟩ := op_of h2 (List.all_eq_true.2 fun m hm => List.all_eq_true.1 hs2 m (Ag.weightsAll_mem (d := Dt i) (List.mem_map.2 ⟨i, List.mem_range.2 hi, rfl⟩) m hm))
      refine ⟨q, hq, fun j u hj => ?_⟩
      have hjl := (List.getElem?_eq_some_iff.1 hj).1
      have e1 := hcell j (by rw [← hlen]; exact hjl)
      rw [Ag.add_add] at e1
      rw [e1]
      exact hj
    obtain ⟨f, hf⟩ := @Ag.choose_any Oq ⟨zoq⟩ _ _ each
    refine ⟨(List.range n).map f, by simp, fun q hq => ?_, by omega, ?_⟩
    · obtain ⟨j, hj, rfl⟩ := List.mem_map.1 hq
      exact (hf j (List.mem_range.1 hj)).1
    · rcases Nat.eq_zero_or_pos n with h0 | hpos
      · exact .inl h0
      · obtain ⟨b, off, spot⟩ := ad
        obtain ⟨u0, hu0⟩ : ∃ u, (oc (f 0))[0]? = some u := ⟨_, rfl⟩
        have hspot : spot = none := by simpa [Addr.add] using World.cell?_spot ((hf 0 hpos).2 0 _ hu0)
        subst hspot
        have hadd : ∀ i : Nat, (⟨b, off, none⟩ : Addr).add i = ⟨b, off + i, none⟩ := fun i => by rw [Go.WideShapes.add_plain]
        refine .inr ⟨b, off, rfl, ?_, fun j z hj c u hu => ?_⟩
        · have := (hf 0 hpos).2 0 _ hu0
          rw [hadd] at this
          exact World.block_lt_of_cell? W _ this
        · have hjl : j < n := by have := (List.getElem?_eq_some_iff.1 hj).1; simpa using this
          rw [List.getElem?_map, List.getElem?_range hjl] at hj
          cases hj
          have r := (hf j hjl).2 c u hu
          rw [hadd, ← Nat.add_assoc] at r
          exact r
end
/-- the act at a place, in a later world -/
theorem OpsR.at {w x : World} {a : Option Addr} {n : Nat} {zs : List Oq} (h : OpsR w a n zs) (hB : Below w.heap.size w x) {j : Nat} (hj : j < n) : ∃ b off z, a = some ⟨b, off, none⟩ ∧ z = zs.getD j zoq ∧ x.cell? ⟨b, off + j * 8, none⟩ = some (.int .i64 z.1.kind) ∧ x.cell? ⟨b, off + j * 8 + 1, none⟩ = some (.int .i64 z.1.en) ∧ x.cell? ⟨b, off + j * 8 + 2, none⟩ = some (.int .i64 z.1.path) ∧ x.cell? ⟨b, off + j * 8 + 3, none⟩ = some (.int .i64 z.1.i) ∧ x.cell? ⟨b, off + j * 8 + 4, none⟩ = some (.int .i64 z.1.at_) ∧ x.cell? ⟨b, off + j * 8 + 5, none⟩ = some (.int .i64 z.1.now) ∧ x.cell? ⟨b, off + j * 8 + 6, none⟩ = some (.int .u8 z.1.bits) ∧ x.cell? ⟨b, off + j * 8 + 7, none⟩ = some (.slice z.2.1 z.2.2.1 z.2.2.2) ∧
    By w.heap.size x z.2.1 z.2.2.1 z.1.bs ∧ (z.2.1 = none → z.2.2.2 = 0) ∧ 0 ≤ z.1.bits ∧ z.1.bits < 256 := by
  obtain ⟨h1, h2, h3, h4⟩ := h
  rcases h4 with h4 | ⟨b, off, rfl, hb, hc⟩
  · omega
  have hz := cell_ato (L := zs) (j := j) (by omega)
  obtain ⟨k1, k2, k3⟩ := h2 _ (List.mem_of_getElem? hz)
  have hcc : ∀ c u, (oc (zs.getD j zoq))[c]? = some u → x.cell? ⟨b, off + j * 8 + c, none⟩ = some u := fun c u hu => (hB.cell (p := ⟨b, off + j * 8 + c, none⟩) hb).trans (hc j _ hz c u hu)
  exact ⟨b, off, _, rfl, rfl, hcc 0 _ rfl, hcc 1 _ rfl, hcc 2 _ rfl, hcc 3 _ rfl, hcc 4 _ rfl, hcc 5 _ rfl, hcc 6 _ rfl, hcc 7 _ rfl, k1.by.later hB, k2, k3⟩
end Go.Proofs.Ytmogacccffkkbaa.Nt
