/-
  What came in: a row of acts.
  Conditions: the row was read as the statements read it.
-/
import Derived.Test.YtdifceikfnnfeaaDoorInO
import Derived.Test.YtdifceikfnnfeaaDoorAg
namespace Go.Proofs.YtdifceikfnnfeaaDoor.Sp.Inb
open Go.ChangeShapes Go.WideShapes Go.ChangeAt Go.RowKit Go.Deep
open Ba (hidden Has cell_lt heap_lt)
set_option linter.unusedVariables false
/-- an act and where its numbers lie -/
structure OA where
  k : Int
  a : Option Addr
  m : Nat
  cap : Nat
  l : List Nat
  n : Int
def zoa : OA := ⟨0, none, 0, 0, [], 0⟩
def oc (z : OA) : List Value := [.int .i64 z.k, .slice z.a z.m z.cap, .int .i64 z.n]
def OkO (w : World) (z : OA) : Prop := Row w z.a z.m z.l
/-- a row of acts -/
def Ops (w : World) (a : Option Addr) (n : Nat) (zs : List OA) : Prop :=
  zs.length = n ∧ (∀ z ∈ zs, OkO w z) ∧ n ≤ 140737488355328 ∧ (n = 0 ∨ ∃ b off, a = some ⟨b, off, none⟩ ∧ b < w.heap.size ∧ ∀ j z, zs[j]? = some z → ∀ c u, (oc z)[c]? = some u → w.cell? ⟨b, off + j * 3 + c, none⟩ = some u)
theorem field_at {fs : Array Field} {L : Array (Nat × TypeId)} (h : fs.map (fun f => (f.offset, f.type)) = L) {i o : Nat} {t : TypeId} (hi : L[i]? = some (o, t)) : ∃ f, fs[i]? = some f ∧ f.offset = o ∧ f.type = t := by
  rw [← h, Array.getElem?_map] at hi
  cases hf : fs[i]? with
  | none => rw [hf] at hi; cases hi
  | some f =>
    rw [hf] at hi
    simp at hi
    exact ⟨f, rfl, hi.1, hi.2⟩
theorem list3 {α : Type} {l : List α} (h : l.length = 3) : ∃ v0 v1 v2, l = [v0, v1, v2] := by
  match l, h with
  | [v0, v1, v2], _ => exact ⟨v0, v1, v2, rfl⟩
theorem fieldsO : ∃ fs : Array Field, Tryd.prog.underlying 35 = some (.struct fs) ∧ fs.map (fun f => (f.offset, f.type)) = #[(0, 3), (1, 33), (2, 3)] := ⟨_, Tryd.underlying35, by simp⟩
theorem nat32 {n : Int} (h : (Lit.int .u32 n).wf = true) : 0 ≤ n ∧ n < 4294967296 := by
  simp [Lit.wf, IntKind.min, IntKind.max, IntKind.signed, IntKind.bits] at h
  omega
section
variable {H : Type} {enc : TypeId × Value → H} {W : World} {base : Nat} {held : Bool} {fuel : Nat} {cl : List Value} {x : DataW H × List MemPlace}
theorem op_of (h : DataW.trod enc Tryd.prog W base (fun _ => true) held fuel 35 cl = some x) (hsz : (x.1.weights Tryd.prog 35).all (· ≤ reachBytes) = true) : ∃ z : OA, cl = oc z ∧ OkO W z := by
  obtain ⟨fs, hu, hfs⟩ := fieldsO
  obtain ⟨xs, n, hf, hx, hcl, hxl, hfield⟩ := DataW.trod_struct hu h
  have hc3 : Tryd.prog.cellsOf 35 = 3 := by kernel_rfl
  rw [hc3] at hcl
  have hfl : fs.size = 3 := by
    have := congrArg Array.size hfs
    simpa using this
  rw [hfl] at hxl
  subst hx
  simp only [DataW.weights, hu] at hsz
  have htypes : fs.toList.map (fun f => f.type) = [3, 33, 3] := by
    have := congrArg (fun l => l.toList.map (·.2)) hfs
    simpa [Function.comp_def] using this
  rw [htypes] at hsz
  have wt : ∀ (i : Nat) (t : TypeId) (y : DataW H × List MemPlace), ([3, 33, 3] : List TypeId)[i]? = some t → xs[i]? = some y → (y.1.weights Tryd.prog t).all (· ≤ reachBytes) = true := by
    intro i t y ht hy
    refine List.all_eq_true.2 fun m hm => List.all_eq_true.1 hsz m (DataW.weights_mem_each (j := i) ht (by rw [List.getElem?_map, hy]; rfl) m hm)
  obtain ⟨v0, v1, v2, rfl⟩ := list3 hcl
  obtain ⟨y0, y1, y2, rfl⟩ := list3 hxl
  obtain ⟨q0, k0, o0, t0⟩ := field_at hfs (i := 0) (o := 0) (t := 3) rfl
  have g0 := hfield 0 q0 k0
  rw [o0, t0, show Tryd.prog.cellsOf 3 = 1 by kernel_rfl] at g0
  simp only [List.drop_zero, List.take_succ_cons, List.take_zero, List.getElem?_cons_zero] at g0
  obtain ⟨n0, e0, _, w0⟩ := DataW.trod_int Tryd.underlying3 g0
  obtain rfl : v0 = .int .i64 n0 := by simpa using e0
  obtain ⟨q1, k1, o1, t1⟩ := field_at hfs (i := 1) (o := 1) (t := 33) rfl
  have g1 := hfield 1 q1 k1
  rw [o1, t1, show Tryd.prog.cellsOf 33 = 1 by kernel_rfl] at g1
  simp only [List.drop_zero, List.drop_succ_cons, List.take_succ_cons, List.take_zero, List.getElem?_cons_zero, List.getElem?_cons_succ] at g1
  obtain ⟨a, m, cap, rfl⟩ : ∃ a m cap, v1 = .slice a m cap := by
    rcases open_slice Tryd.underlying33 g1 with ⟨hcs, _⟩ | ⟨ad, l, c, m, k, D, Pl, hcs, _⟩
    · exact ⟨none, 0, 0, by simpa using hcs⟩
    · exact ⟨some ad, l, c, by simpa using hcs⟩
  obtain ⟨q2, k2, o2, t2⟩ := field_at hfs (i := 2) (o := 2) (t := 3) rfl
  have g2 := hfield 2 q2 k2
  rw [o2, t2, show Tryd.prog.cellsOf 3 = 1 by kernel_rfl] at g2
  simp only [List.drop_zero, List.drop_succ_cons, List.take_succ_cons, List.take_zero, List.getElem?_cons_zero, List.getElem?_cons_succ] at g2
  obtain ⟨n2, e2, _, w2⟩ := DataW.trod_int Tryd.underlying3 g2
  obtain rfl : v2 = .int .i64 n2 := by simpa using e2
  obtain ⟨zs, ⟨hr1, hr2, hr3, hr4⟩, hmc, hcb, hnil⟩ := Ag.rows_arg (Ag.kind_int Tryd.underlying22 (by kernel_rfl)) Tryd.underlying33 (Nat.le_of_ble_eq_true (by kernel_rfl)) (a := a) (n := m) (cap := cap) g1 (wt 1 33 y1 rfl rfl)
  rw [show Tryd.prog.bytesOf 22 = 4 by kernel_rfl] at hcb
  have hn : ∀ z ∈ zs, 0 ≤ z ∧ z < 4294967296 := fun z hz => nat32 (hr2 z hz)
  refine ⟨⟨n0, a, m, cap, zs.map Int.toNat, n2⟩, rfl, by rw [List.length_map]; exact hr1, (show m ≤ 35184372087808 by omega), fun t ht => ?_, hr4.imp id ?_⟩
  · obtain ⟨z, hz, rfl⟩ := List.mem_map.1 ht
    have := hn z hz
    omega
  · rintro ⟨b, off, rfl, hb, hc⟩
    refine ⟨b, off, rfl, hb, fun j hj => ?_⟩
    have hj2 : j < zs.length := by rw [hr1]; exact hj
    have := hc j zs[j] (List.getElem?_eq_getElem hj2) 0 _ rfl
    rw [Nat.mul_one, Nat.add_zero] at this
    rw [this]
    have hz := hn _ (List.getElem_mem hj2)
    rw [show nf (zs.map Int.toNat) j = ((zs[j].toNat : Nat) : Int) from nf_some (by rw [List.getElem?_map, List.getElem?_eq_getElem hj2]; rfl), Int.toNat_of_nonneg hz.1]
theorem ops_arg {a : Option Addr} {n cap : Nat} (h : DataW.trod enc Tryd.prog W base (fun _ => true) held fuel 23 (Value.slice a n cap).cells.toList = some x) (hsz : (x.1.weights Tryd.prog 23).all (· ≤ reachBytes) = true) :
    ∃ zs, Ops W a n zs := by
  have hc8 : Tryd.prog.cellsOf 35 = 3 := by kernel_rfl
  have hb8 : 1 ≤ Tryd.prog.bytesOf 35 := Nat.le_of_ble_eq_true (by kernel_rfl)
  rcases open_slice Tryd.underlying23 h with ⟨hcs, _⟩ | ⟨ad, l, c, m, nn, Dt, Pl, hcs, _, hl, hm, hmm, rfl, hx⟩
  · simp [Value.cells] at hcs
    obtain ⟨rfl, rfl, rfl⟩ := hcs
    exact ⟨[], rfl, by simp, by decide, .inl rfl⟩
  · simp [Value.cells] at hcs
    obtain ⟨rfl, rfl, rfl⟩ := hcs
    simp only [if_pos] at hmm
    subst hmm
    simp only [DataW.weights, Tryd.underlying23, List.all_cons, Bool.and_eq_true, decide_eq_true_eq, List.all_append, List.length_map, List.length_range] at hsz
    obtain ⟨hs1, hs2, _⟩ := hsz
    have hcb : m * Tryd.prog.bytesOf 35 ≤ 140737488351232 := by
      unfold reachBytes at hs1
      rw [show n + (m - n) = m by omega] at hs1
      exact hs1
    have hcn : m ≤ 140737488351232 := Nat.le_trans (Nat.le_mul_of_pos_right m hb8) hcb
    have each : ∀ i, i < n → ∃ q : OA, OkO W q ∧ ∀ j u, (oc q)[j]? = some u → W.cell? (ad.add (i * 3 + j)) = some u := by
      intro i hi
      obtain ⟨cs', h1, h2⟩ := hx i (by omega)
      rw [hc8] at h1
      obtain ⟨_, hlen, hcell⟩ := World.cells?_some h1
      obtain ⟨q, rfl, hq⟩ := op_of h2 (List.all_eq_true.2 fun m hm => List.all_eq_true.1 hs2 m (Ag.weightsAll_mem (d := Dt i) (List.mem_map.2 ⟨i, List.mem_range.2 hi, rfl⟩) m hm))
      refine ⟨q, hq, fun j u hj => ?_⟩
      have hjl := (List.getElem?_eq_some_iff.1 hj).1
      have e1 := hcell j (by rw [← hlen]; exact hjl)
      rw [Ag.add_add] at e1
      rw [e1]
      exact hj
    obtain ⟨f, hf⟩ := @Ag.choose_any OA ⟨zoa⟩ _ _ each
    refine ⟨(List.range n).map f, by simp, fun q hq => ?_, by omega, ?_⟩
    · obtain ⟨j, hj, rfl⟩ := List.mem_map.1 hq
      exact (hf j (List.mem_range.1 hj)).1
    · rcases Nat.eq_zero_or_pos n with h0 | hpos
      · exact .inl h0
      · obtain ⟨b, off, spot⟩ := ad
        obtain ⟨u0, hu0⟩ : ∃ u, (oc (f 0))[0]? = some u := ⟨_, rfl⟩
        have hspot : spot = none := by simpa [Addr.add] using World.cell?_spot ((hf 0 hpos).2 0 _ hu0)
        subst hspot
        have hadd : ∀ i : Nat, (⟨b, off, none⟩ : Addr).add i = ⟨b, off + i, none⟩ := fun i => by rw [Go.WideShapes.add_plain]
        refine .inr ⟨b, off, rfl, ?_, fun j z hj c u hu => ?_⟩
        · have := (hf 0 hpos).2 0 _ hu0
          rw [hadd] at this
          exact World.block_lt_of_cell? W _ this
        · have hjl : j < n := by have := (List.getElem?_eq_some_iff.1 hj).1; simpa using this
          rw [List.getElem?_map, List.getElem?_range hjl] at hj
          cases hj
          have r := (hf j hjl).2 c u hu
          rw [hadd, ← Nat.add_assoc] at r
          exact r
end
/-- the act at a place, in a later world -/
theorem Ops.at {w x : World} {a : Option Addr} {n : Nat} {zs : List OA} (h : Ops w a n zs) (hB : Below w.heap.size w x) {j : Nat} (hj : j < n) : ∃ b off z, a = some ⟨b, off, none⟩ ∧ zs[j]? = some z ∧ x.cell? ⟨b, off + j * 3, none⟩ = some (.int .i64 z.k) ∧ x.cell? ⟨b, off + j * 3 + 1, none⟩ = some (.slice z.a z.m z.cap) ∧ x.cell? ⟨b, off + j * 3 + 2, none⟩ = some (.int .i64 z.n) ∧ Row x z.a z.m z.l := by
  obtain ⟨h1, h2, h3, h4⟩ := h
  rcases h4 with h4 | ⟨b, off, rfl, hb, hc⟩
  · omega
  obtain ⟨z, hz⟩ : ∃ z, zs[j]? = some z := ⟨_, List.getElem?_eq_getElem (by omega)⟩
  have hcc : ∀ c u, (oc z)[c]? = some u → x.cell? ⟨b, off + j * 3 + c, none⟩ = some u := fun c u hu => (hB.cell (p := ⟨b, off + j * 3 + c, none⟩) hb).trans (hc j _ hz c u hu)
  exact ⟨b, off, z, rfl, hz, hcc 0 _ rfl, hcc 1 _ rfl, hcc 2 _ rfl, Row.later (h2 _ (List.mem_of_getElem? hz)) hB⟩
end Go.Proofs.YtdifceikfnnfeaaDoor.Sp.Inb
