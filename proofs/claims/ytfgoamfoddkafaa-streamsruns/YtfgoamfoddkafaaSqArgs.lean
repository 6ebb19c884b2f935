/-
  What came in: bytes, calls, messages, numbers.
  Conditions: as at each lemma.
-/
import Derived.Test.YtfgoamfoddkafaaSqA
import Derived.Test.YtfgoamfoddkafaaAg
import Derived.SizedLaws
namespace Go.Proofs.Ytfgoamfoddkafaa.Sq
open Go.ChangeShapes Go.WideShapes Go.ChangeAt Go.RowKit Go.Deep
open Ba (hidden Has Only cell_lt heap_lt)
set_option linter.unusedVariables false

theorem u8_bounds {n : Int} (h : (Lit.int .u8 n).wf = true) : 0 ≤ n ∧ n < 256 := by
  simp [Lit.wf, IntKind.min, IntKind.max, IntKind.signed, IntKind.bits] at h
  omega
theorem bulk_one {H : Type} (d : DataW H) : 1 ≤ Rows.uptoBulk d := by
  cases d with
  | lit l => cases l <;> simp [Rows.uptoBulk]
  | nil => simp [Rows.uptoBulk]
  | ptr d => simp [Rows.uptoBulk]
  | slice elems spare => simp [Rows.uptoBulk]
  | agg parts => simp [Rows.uptoBulk]
  | iface t d => simp [Rows.uptoBulk]
  | map entries => simp [Rows.uptoBulk]
  | held h => simp [Rows.uptoBulk]
theorem bulk_len {H : Type} (l : List (DataW H)) : l.length ≤ Rows.uptoBulkAll l := by
  induction l with
  | nil => simp [Rows.uptoBulkAll]
  | cons x r ih => have := bulk_one x; simp only [Rows.uptoBulkAll, List.length_cons]; omega
theorem bulk_part {H : Type} {d : DataW H} {l : List (DataW H)} (h : d ∈ l) : Rows.uptoBulk d ≤ Rows.uptoBulkAll l := by
  induction l with
  | nil => cases h
  | cons x r ih =>
    simp only [Rows.uptoBulkAll]
    cases List.mem_cons.1 h with
    | inl e => subst e; omega
    | inr e => have := ih e; omega
theorem bulk_sum {H X : Type} (f : Nat → X) (D : Nat → DataW H) (wt : X → Nat) : ∀ l : List Nat, (∀ i ∈ l, wt (f i) ≤ Rows.uptoBulk (D i)) → ((l.map f).map wt).sum ≤ Rows.uptoBulkAll (l.map D)
  | [], _ => by simp [Rows.uptoBulkAll]
  | i :: l, h => by
    have h1 := h i (by simp)
    have h2 := bulk_sum f D wt l (fun j hj => h j (by simp [hj]))
    simp only [List.map_cons, List.sum_cons, Rows.uptoBulkAll]
    omega
section
variable {H : Type} {enc : TypeId × Value → H} {W : World} {base : Nat} {held : Bool} {fuel : Nat} {cl : List Value} {x : DataW H × List MemPlace}
/-- a slice of bytes that came in, by its cells -/
theorem row_of (h : DataW.trod enc Try.prog W base (fun _ => true) held fuel 34 cl = some x) (hsz : (x.1.weights Try.prog 34).all (· ≤ reachBytes) = true) :
    ∃ a len cap zs, cl = [.slice a len cap] ∧ Row W a len zs ∧ len ≤ cap ∧ cap ≤ 140737488351232 ∧ (a = none → len = 0 ∧ cap = 0) ∧ len ≤ Rows.uptoBulk x.1 := by
  have h5 : Try.prog.bytesOf 5 = 1 := by kernel_rfl
  rcases open_ints Try.underlying34 Try.underlying5 (by kernel_rfl) h with ⟨hcs, _⟩ | ⟨y, len, cap, zs, hcs, _, hl, hm, hz, rfl, hcell, hwz⟩
  · exact ⟨none, 0, 0, [], hcs, Row.nil _ _, by decide, by decide, (fun _ => ⟨rfl, rfl⟩), Nat.zero_le _⟩
  · simp only [if_pos] at hz
    simp only [DataW.weights, Try.underlying34, List.all_cons, Bool.and_eq_true, decide_eq_true_eq, h5, Nat.mul_one] at hsz
    have hs1 := hsz.1
    unfold reachBytes at hs1
    simp only [lits, List.length_map, List.length_take, List.length_drop] at hs1
    have hb : Bytes (zs.take len) := fun n hn => u8_bounds (hwz n (List.mem_of_mem_take hn))
    refine ⟨some y, len, cap, zs.take len, hcs, ⟨by rw [List.length_take]; omega, hb, by omega, ?_⟩, hl, by omega, (fun h => by cases h), ?_⟩
    · rcases Nat.eq_zero_or_pos len with h0 | hpos
      · exact .inl h0
      · obtain ⟨b, off, rfl, hc'⟩ := ints_at hcell (by omega)
        refine .inr ⟨b, off, rfl, fun j hj => ?_⟩
        rw [hc' j (by omega), List.getD_eq_getElem?_getD, List.getD_eq_getElem?_getD, List.getElem?_take, if_pos hj]
    · have := bulk_len (H := H) (lits .u8 (zs.take len))
      simp only [lits, List.length_map, List.length_take] at this
      simp only [Rows.uptoBulk, lits]
      omega
theorem row_arg {a : Option Addr} {len cap : Nat} (h : DataW.trod enc Try.prog W base (fun _ => true) held fuel 34 (Value.slice a len cap).cells.toList = some x) (hsz : (x.1.weights Try.prog 34).all (· ≤ reachBytes) = true) :
    ∃ zs, Row W a len zs ∧ len ≤ cap ∧ cap ≤ 140737488351232 ∧ (a = none → len = 0 ∧ cap = 0) := by
  obtain ⟨a', len', cap', zs, e, h1, h2, h3, h4, _⟩ := row_of h hsz
  simp [Value.cells] at e
  obtain ⟨rfl, rfl, rfl⟩ := e
  exact ⟨zs, h1, h2, h3, h4⟩
/-- rows of elements that came in -/
theorem rows_of {T E : TypeId} {k : Nat} {X : Type} [Inhabited X] {cells : X → List Value} {ok : X → Prop} (wt : X → Nat) (hk : Try.prog.cellsOf E = k) (kp : 0 < k) (kl : ∀ q, (cells q).length = k)
    (elem : ∀ {fuel : Nat} {cl : List Value} {x : DataW H × List MemPlace}, DataW.trod enc Try.prog W base (fun _ => true) held fuel E cl = some x → (x.1.weights Try.prog E).all (· ≤ reachBytes) = true → ∃ q, cl = cells q ∧ ok q ∧ wt q ≤ Rows.uptoBulk x.1)
    (hT : Try.prog.underlying T = some (.slice E)) {a : Option Addr} {n cap : Nat} (h : DataW.trod enc Try.prog W base (fun _ => true) held fuel T (Value.slice a n cap).cells.toList = some x) (hsz : (x.1.weights Try.prog T).all (· ≤ reachBytes) = true) :
    ∃ zs : List X, zs.length = n ∧ (∀ z ∈ zs, ok z) ∧ (n = 0 ∨ ∃ b off, a = some ⟨b, off, none⟩ ∧ ∀ j z, zs[j]? = some z → ∀ c u, (cells z)[c]? = some u → W.cell? ⟨b, off + j * k + c, none⟩ = some u) ∧
      n ≤ cap ∧ cap * Try.prog.bytesOf E ≤ 140737488351232 ∧ (a = none → n = 0 ∧ cap = 0) ∧ (zs.map wt).sum ≤ Rows.uptoBulk x.1 ∧ n ≤ Rows.uptoBulk x.1 := by
  rcases open_slice hT h with ⟨hcs, _⟩ | ⟨ad, l, c, m, nn, Dt, Pl, hcs, _, hl, hm, hmm, rfl, hx⟩
  · simp [Value.cells] at hcs
    obtain ⟨rfl, rfl, rfl⟩ := hcs
    exact ⟨[], rfl, by simp, .inl rfl, Nat.le_refl _, by omega, (fun _ => ⟨rfl, rfl⟩), by simp, Nat.zero_le _⟩
  · simp [Value.cells] at hcs
    obtain ⟨rfl, rfl, rfl⟩ := hcs
    simp only [if_pos] at hmm
    subst hmm
    simp only [DataW.weights, hT, List.all_cons, Bool.and_eq_true, decide_eq_true_eq, List.all_append, List.length_map, List.length_range] at hsz
    obtain ⟨hs1, hs2, _⟩ := hsz
    have hcb : m * Try.prog.bytesOf E ≤ 140737488351232 := by
      unfold reachBytes at hs1
      rw [show n + (m - n) = m by omega] at hs1
      exact hs1
    have each : ∀ i, i < n → ∃ q : X, (ok q ∧ ∀ j u, (cells q)[j]? = some u → W.cell? (ad.add (i * k + j)) = some u) ∧ wt q ≤ Rows.uptoBulk (Dt i) := by
      intro i hi
      obtain ⟨cs', h1, h2⟩ := hx i (by omega)
      rw [hk] at h1
      obtain ⟨_, hlen, hcell⟩ := World.cells?_some h1
      obtain ⟨q, rfl, hq, hw⟩ := elem h2 (List.all_eq_true.2 fun m hm => List.all_eq_true.1 hs2 m (Ag.weightsAll_mem (d := Dt i) (List.mem_map.2 ⟨i, List.mem_range.2 hi, rfl⟩) m hm))
      refine ⟨q, ⟨hq, fun j u hj => ?_⟩, hw⟩
      have hjl := (List.getElem?_eq_some_iff.1 hj).1
      have e1 := hcell j (by rw [← hlen]; exact hjl)
      rw [Ag.add_add] at e1
      rw [e1]
      exact hj
    obtain ⟨f, hf⟩ := Ag.choose_any each
    refine ⟨(List.range n).map f, by simp, fun q hq => ?_, ?_, hl, hcb, (fun h => by cases h), ?_, ?_⟩
    · obtain ⟨j, hj, rfl⟩ := List.mem_map.1 hq
      exact (hf j (List.mem_range.1 hj)).1.1
    · rcases Nat.eq_zero_or_pos n with h0 | hpos
      · exact .inl h0
      · obtain ⟨b, off, spot⟩ := ad
        obtain ⟨u0, hu0⟩ : ∃ u, (cells (f 0))[0]? = some u := ⟨_, List.getElem?_eq_getElem (by rw [kl]; exact kp)⟩
        have hspot : spot = none := by simpa [Addr.add] using World.cell?_spot ((hf 0 hpos).1.2 0 _ hu0)
        subst hspot
        have hadd : ∀ i : Nat, (⟨b, off, none⟩ : Addr).add i = ⟨b, off + i, none⟩ := fun i => by rw [Go.WideShapes.add_plain]
        refine .inr ⟨b, off, rfl, fun j z hj c u hu => ?_⟩
        have hjl : j < n := by have := (List.getElem?_eq_some_iff.1 hj).1; simpa using this
        rw [List.getElem?_map, List.getElem?_range hjl] at hj
        cases hj
        have r := (hf j hjl).1.2 c u hu
        rw [hadd, ← Nat.add_assoc] at r
        exact r
    · have := bulk_sum f Dt wt (List.range n) (fun i hi => (hf i (List.mem_range.1 hi)).2)
      simp only [Rows.uptoBulk]
      omega
    · have := bulk_len ((List.range n).map Dt)
      simp only [List.length_map, List.length_range] at this
      simp only [Rows.uptoBulk]
      omega
theorem field_at {fs : Array Field} {L : Array (Nat × TypeId)} (h : fs.map (fun f => (f.offset, f.type)) = L) {i o : Nat} {t : TypeId} (hi : L[i]? = some (o, t)) : ∃ f, fs[i]? = some f ∧ f.offset = o ∧ f.type = t := by
  rw [← h, Array.getElem?_map] at hi
  cases hf : fs[i]? with
  | none => rw [hf] at hi; cases hi
  | some f =>
    rw [hf] at hi
    simp at hi
    exact ⟨f, rfl, hi.1, hi.2⟩
end
/-- a call as it came in -/
structure OA where
  kd : Int
  st : Int
  pr : Int
  un : Bool
  a : Option Addr
  l : Nat
  c : Nat
  zs : List Int
  n : Int
def oc (z : OA) : List Value := [.int .i64 z.kd, .int .u16 z.st, .int .u32 z.pr, .bool z.un, .slice z.a z.l z.c, .int .i64 z.n]
def OkO (W : World) (z : OA) : Prop := Row W z.a z.l z.zs ∧ (z.a = none → z.l = 0 ∧ z.c = 0) ∧ (0 ≤ z.st ∧ z.st < 65536) ∧ (0 ≤ z.pr ∧ z.pr < 4294967296)
/-- a message as it came in -/
structure MA where
  st : Int
  sn : Int
  pr : Int
  un : Bool
  a : Option Addr
  l : Nat
  c : Nat
  zs : List Int
def mc (z : MA) : List Value := [.int .u16 z.st, .int .u16 z.sn, .int .u32 z.pr, .bool z.un, .slice z.a z.l z.c]
def OkM (W : World) (z : MA) : Prop := Row W z.a z.l z.zs ∧ (z.a = none → z.l = 0 ∧ z.c = 0) ∧ (0 ≤ z.st ∧ z.st < 65536) ∧ (0 ≤ z.pr ∧ z.pr < 4294967296)
def zOA : OA := ⟨0, 0, 0, false, none, 0, 0, [], 0⟩
def zMA : MA := ⟨0, 0, 0, false, none, 0, 0, []⟩
/-- rows of elements that came in -/
def Els {X : Type} (k : Nat) (cells : X → List Value) (ok : World → X → Prop) (W : World) (a : Option Addr) (n : Nat) (zs : List X) : Prop :=
  zs.length = n ∧ (∀ z ∈ zs, ok W z) ∧ n ≤ 140737488355328 ∧ (n = 0 ∨ ∃ b off, a = some ⟨b, off, none⟩ ∧ ∀ j z, zs[j]? = some z → ∀ c u, (cells z)[c]? = some u → W.cell? ⟨b, off + j * k + c, none⟩ = some u)
abbrev Ops := Els 6 oc OkO
abbrev Msgs := Els 5 mc OkM
abbrev Ints := Els 1 (fun z : Int => [Value.int .i64 z]) (fun _ z => (Lit.int .i64 z).wf = true)
theorem OkO.later {w w' : World} {z : OA} (h : OkO w z) (hB : Below w.heap.size w w') : OkO w' z := ⟨h.1.later hB, h.2⟩
theorem OkM.later {w w' : World} {z : MA} (h : OkM w z) (hB : Below w.heap.size w w') : OkM w' z := ⟨h.1.later hB, h.2⟩
theorem u16_bounds {n : Int} (h : (Lit.int .u16 n).wf = true) : 0 ≤ n ∧ n < 65536 := by
  simp [Lit.wf, IntKind.min, IntKind.max, IntKind.signed, IntKind.bits] at h
  omega
theorem u32_bounds {n : Int} (h : (Lit.int .u32 n).wf = true) : 0 ≤ n ∧ n < 4294967296 := by
  simp [Lit.wf, IntKind.min, IntKind.max, IntKind.signed, IntKind.bits] at h
  omega
/-- the element at a place, in a later world -/
theorem Els.at {X : Type} {k : Nat} {cells : X → List Value} {ok : World → X → Prop} {w x : World} {a : Option Addr} {n : Nat} {zs : List X} (h : Els k cells ok w a n zs) (hB : Below w.heap.size w x) {j : Nat} (hj : j < n) : ∃ b off z, a = some ⟨b, off, none⟩ ∧ zs[j]? = some z ∧ ok w z ∧ ∀ c u, (cells z)[c]? = some u → x.cell? ⟨b, off + j * k + c, none⟩ = some u := by
  obtain ⟨h1, h2, h3, h4⟩ := h
  rcases h4 with h4 | ⟨b, off, rfl, hc⟩
  · omega
  obtain ⟨z, hz⟩ : ∃ z, zs[j]? = some z := ⟨_, List.getElem?_eq_getElem (by omega)⟩
  exact ⟨b, off, z, rfl, hz, h2 z (List.mem_of_getElem? hz), fun c u hu => (hB.cell (p := ⟨b, off + j * k + c, none⟩) (cell_lt (hc j z hz c u hu))).trans (hc j z hz c u hu)⟩
section
variable {H : Type} {enc : TypeId × Value → H} {W : World} {base : Nat} {held : Bool} {fuel : Nat} {cl : List Value} {x : DataW H × List MemPlace}
theorem listop {α : Type} {l : List α} (h : l.length = 6) : ∃ v0 v1 v2 v3 v4 v5, l = [v0, v1, v2, v3, v4, v5] := by
  match l, h with
  | [v0, v1, v2, v3, v4, v5], _ => exact ⟨v0, v1, v2, v3, v4, v5, rfl⟩
theorem fieldsop : ∃ fs : Array Field, Try.prog.underlying 36 = some (.struct fs) ∧ fs.map (fun f => (f.offset, f.type)) = #[(0, 3), (1, 32), (2, 33), (3, 4), (4, 34), (5, 3)] := ⟨_, Try.underlying36, by simp⟩
theorem op_of (h : DataW.trod enc Try.prog W base (fun _ => true) held fuel 36 cl = some x) (hsz : (x.1.weights Try.prog 36).all (· ≤ reachBytes) = true) : ∃ q : OA, cl = oc q ∧ OkO W q ∧ q.zs.length ≤ Rows.uptoBulk x.1 := by
  obtain ⟨fs, hu, hfs⟩ := fieldsop
  obtain ⟨xs, n, hf, hx, hcl, hxl, hfield⟩ := DataW.trod_struct hu h
  have hc3 : Try.prog.cellsOf 36 = 6 := by kernel_rfl
  rw [hc3] at hcl
  have hfl : fs.size = 6 := by
    have := congrArg Array.size hfs
    simpa using this
  rw [hfl] at hxl
  subst hx
  simp only [DataW.weights, hu] at hsz
  have htypes : fs.toList.map (fun f => f.type) = [3, 32, 33, 4, 34, 3] := by
    have := congrArg (fun l => l.toList.map (·.2)) hfs
    simpa [Function.comp_def] using this
  rw [htypes] at hsz
  have wt : ∀ (i : Nat) (t : TypeId) (y : DataW H × List MemPlace), ([3, 32, 33, 4, 34, 3] : List TypeId)[i]? = some t → xs[i]? = some y → (y.1.weights Try.prog t).all (· ≤ reachBytes) = true := by
    intro i t y ht hy
    refine List.all_eq_true.2 fun m hm => List.all_eq_true.1 hsz m (DataW.weights_mem_each (j := i) ht (by rw [List.getElem?_map, hy]; rfl) m hm)
  obtain ⟨v0, v1, v2, v3, v4, v5, rfl⟩ := listop hcl
  obtain ⟨y0, y1, y2, y3, y4, y5, rfl⟩ := listop hxl
  obtain ⟨q0, k0, o0, t0⟩ := field_at hfs (i := 0) (o := 0) (t := 3) rfl
  have g0 := hfield 0 q0 k0
  rw [o0, t0, show Try.prog.cellsOf 3 = 1 by kernel_rfl] at g0
  simp only [List.drop_zero, List.take_succ_cons, List.take_zero, List.getElem?_cons_zero] at g0
  obtain ⟨n0, e0, _, w0⟩ := DataW.trod_int Try.underlying3 g0
  obtain rfl : v0 = .int .i64 n0 := by simpa using e0
  obtain ⟨q1, k1, o1, t1⟩ := field_at hfs (i := 1) (o := 1) (t := 32) rfl
  have g1 := hfield 1 q1 k1
  rw [o1, t1, show Try.prog.cellsOf 32 = 1 by kernel_rfl] at g1
  simp only [List.drop_zero, List.drop_succ_cons, List.take_succ_cons, List.take_zero, List.getElem?_cons_zero, List.getElem?_cons_succ] at g1
  obtain ⟨n1, e1, _, w1⟩ := DataW.trod_int Try.underlying32 g1
  obtain rfl : v1 = .int .u16 n1 := by simpa using e1
  obtain ⟨q2, k2, o2, t2⟩ := field_at hfs (i := 2) (o := 2) (t := 33) rfl
  have g2 := hfield 2 q2 k2
  rw [o2, t2, show Try.prog.cellsOf 33 = 1 by kernel_rfl] at g2
  simp only [List.drop_zero, List.drop_succ_cons, List.take_succ_cons, List.take_zero, List.getElem?_cons_zero, List.getElem?_cons_succ] at g2
  obtain ⟨n2, e2, _, w2⟩ := DataW.trod_int Try.underlying33 g2
  obtain rfl : v2 = .int .u32 n2 := by simpa using e2
  obtain ⟨q3, k3, o3, t3⟩ := field_at hfs (i := 3) (o := 3) (t := 4) rfl
  have g3 := hfield 3 q3 k3
  rw [o3, t3, show Try.prog.cellsOf 4 = 1 by kernel_rfl] at g3
  simp only [List.drop_zero, List.drop_succ_cons, List.take_succ_cons, List.take_zero, List.getElem?_cons_zero, List.getElem?_cons_succ] at g3
  obtain ⟨n3, e3, _⟩ := DataW.trod_bool Try.underlying4 g3
  obtain rfl : v3 = .bool n3 := by simpa using e3
  obtain ⟨q4, k4, o4, t4⟩ := field_at hfs (i := 4) (o := 4) (t := 34) rfl
  have g4 := hfield 4 q4 k4
  rw [o4, t4, show Try.prog.cellsOf 34 = 1 by kernel_rfl] at g4
  simp only [List.drop_zero, List.drop_succ_cons, List.take_succ_cons, List.take_zero, List.getElem?_cons_zero, List.getElem?_cons_succ] at g4
  obtain ⟨a, len, cap, zs, e4, hr, h1, h2, h3, hb⟩ := row_of g4 (wt 4 34 y4 rfl rfl)
  obtain rfl : v4 = .slice a len cap := by simpa using e4
  obtain ⟨q5, k5, o5, t5⟩ := field_at hfs (i := 5) (o := 5) (t := 3) rfl
  have g5 := hfield 5 q5 k5
  rw [o5, t5, show Try.prog.cellsOf 3 = 1 by kernel_rfl] at g5
  simp only [List.drop_zero, List.drop_succ_cons, List.take_succ_cons, List.take_zero, List.getElem?_cons_zero, List.getElem?_cons_succ] at g5
  obtain ⟨n5, e5, _, w5⟩ := DataW.trod_int Try.underlying3 g5
  obtain rfl : v5 = .int .i64 n5 := by simpa using e5
  refine ⟨⟨n0, n1, n2, n3, a, len, cap, zs, n5⟩, rfl, ⟨hr, h3, u16_bounds w1, u32_bounds w2⟩, ?_⟩
  have hp := bulk_part (H := H) (d := y4.1) (l := [y0, y1, y2, y3, y4, y5].map (·.1)) (by simp)
  simp only [Rows.uptoBulk]
  simp only [hr.1]
  omega
theorem ops_arg {a : Option Addr} {n cap : Nat} (h : DataW.trod enc Try.prog W base (fun _ => true) held fuel 22 (Value.slice a n cap).cells.toList = some x) (hsz : (x.1.weights Try.prog 22).all (· ≤ reachBytes) = true) : ∃ zs, Ops W a n zs := by
  have hb : Try.prog.bytesOf 36 = 56 := by kernel_rfl
  haveI : Inhabited OA := ⟨zOA⟩
  obtain ⟨qs, h1, h2, h3, h4, h5, _, h7, _⟩ := rows_of (X := OA) (cells := oc) (ok := OkO W) (fun q => q.zs.length) (k := 6) (by kernel_rfl) (by decide) (fun q => rfl) op_of Try.underlying22 h hsz
  rw [hb] at h5
  exact ⟨qs, h1, h2, by omega, h3⟩
theorem op_arg {v : Value} {base2 : Nat} (hval : Value.okWide Try.prog W .any base2 36 v) (h : DataW.trod enc Try.prog W base (fun _ => true) held fuel 36 v.cells.toList = some x) (hsz : (x.1.weights Try.prog 36).all (· ≤ reachBytes) = true) : ∃ q, v = .agg (oc q).toArray ∧ OkO W q := by
  obtain ⟨fs, hu, hfs⟩ := fieldsop
  obtain ⟨cs, rfl, _⟩ := okWide_struct hu hval
  obtain ⟨q, hq, h2, _⟩ := op_of h hsz
  refine ⟨q, ?_, h2⟩
  rw [← hq]
  simp [Value.cells]
theorem listmsg {α : Type} {l : List α} (h : l.length = 5) : ∃ v0 v1 v2 v3 v4, l = [v0, v1, v2, v3, v4] := by
  match l, h with
  | [v0, v1, v2, v3, v4], _ => exact ⟨v0, v1, v2, v3, v4, rfl⟩
theorem fieldsmsg : ∃ fs : Array Field, Try.prog.underlying 42 = some (.struct fs) ∧ fs.map (fun f => (f.offset, f.type)) = #[(0, 32), (1, 32), (2, 33), (3, 4), (4, 34)] := ⟨_, Try.underlying42, by simp⟩
theorem msg_of (h : DataW.trod enc Try.prog W base (fun _ => true) held fuel 42 cl = some x) (hsz : (x.1.weights Try.prog 42).all (· ≤ reachBytes) = true) : ∃ q : MA, cl = mc q ∧ OkM W q ∧ q.zs.length ≤ Rows.uptoBulk x.1 := by
  obtain ⟨fs, hu, hfs⟩ := fieldsmsg
  obtain ⟨xs, n, hf, hx, hcl, hxl, hfield⟩ := DataW.trod_struct hu h
  have hc3 : Try.prog.cellsOf 42 = 5 := by kernel_rfl
  rw [hc3] at hcl
  have hfl : fs.size = 5 := by
    have := congrArg Array.size hfs
    simpa using this
  rw [hfl] at hxl
  subst hx
  simp only [DataW.weights, hu] at hsz
  have htypes : fs.toList.map (fun f => f.type) = [32, 32, 33, 4, 34] := by
    have := congrArg (fun l => l.toList.map (·.2)) hfs
    simpa [Function.comp_def] using this
  rw [htypes] at hsz
  have wt : ∀ (i : Nat) (t : TypeId) (y : DataW H × List MemPlace), ([32, 32, 33, 4, 34] : List TypeId)[i]? = some t → xs[i]? = some y → (y.1.weights Try.prog t).all (· ≤ reachBytes) = true := by
    intro i t y ht hy
    refine List.all_eq_true.2 fun m hm => List.all_eq_true.1 hsz m (DataW.weights_mem_each (j := i) ht (by rw [List.getElem?_map, hy]; rfl) m hm)
  obtain ⟨v0, v1, v2, v3, v4, rfl⟩ := listmsg hcl
  obtain ⟨y0, y1, y2, y3, y4, rfl⟩ := listmsg hxl
  obtain ⟨q0, k0, o0, t0⟩ := field_at hfs (i := 0) (o := 0) (t := 32) rfl
  have g0 := hfield 0 q0 k0
  rw [o0, t0, show Try.prog.cellsOf 32 = 1 by kernel_rfl] at g0
  simp only [List.drop_zero, List.take_succ_cons, List.take_zero, List.getElem?_cons_zero] at g0
  obtain ⟨n0, e0, _, w0⟩ := DataW.trod_int Try.underlying32 g0
  obtain rfl : v0 = .int .u16 n0 := by simpa using e0
  obtain ⟨q1, k1, o1, t1⟩ := field_at hfs (i := 1) (o := 1) (t := 32) rfl
  have g1 := hfield 1 q1 k1
  rw [o1, t1, show Try.prog.cellsOf 32 = 1 by kernel_rfl] at g1
  simp only [List.drop_zero, List.drop_succ_cons, List.take_succ_cons, List.take_zero, List.getElem?_cons_zero, List.getElem?_cons_succ] at g1
  obtain ⟨n1, e1, _, w1⟩ := DataW.trod_int Try.underlying32 g1
  obtain rfl : v1 = .int .u16 n1 := by simpa using e1
  obtain ⟨q2, k2, o2, t2⟩ := field_at hfs (i := 2) (o := 2) (t := 33) rfl
  have g2 := hfield 2 q2 k2
  rw [o2, t2, show Try.prog.cellsOf 33 = 1 by kernel_rfl] at g2
  simp only [List.drop_zero, List.drop_succ_cons, List.take_succ_cons, List.take_zero, List.getElem?_cons_zero, List.getElem?_cons_succ] at g2
  obtain ⟨n2, e2, _, w2⟩ := DataW.trod_int Try.underlying33 g2
  obtain rfl : v2 = .int .u32 n2 := by simpa using e2
  obtain ⟨q3, k3, o3, t3⟩ := field_at hfs (i := 3) (o := 3) (t := 4) rfl
  have g3 := hfield 3 q3 k3
  rw [o3, t3, show Try.prog.cellsOf 4 = 1 by kernel_rfl] at g3
  simp only [List.drop_zero, List.drop_succ_cons, List.take_succ_cons, List.take_zero, List.getElem?_cons_zero, List.getElem?_cons_succ] at g3
  obtain ⟨n3, e3, _⟩ := DataW.trod_bool Try.underlying4 g3
  obtain rfl : v3 = .bool n3 := by simpa using e3
  obtain ⟨q4, k4, o4, t4⟩ := field_at hfs (i := 4) (o := 4) (t := 34) rfl
  have g4 := hfield 4 q4 k4
  rw [o4, t4, show Try.prog.cellsOf 34 = 1 by kernel_rfl] at g4
  simp only [List.drop_zero, List.drop_succ_cons, List.take_succ_cons, List.take_zero, List.getElem?_cons_zero, List.getElem?_cons_succ] at g4
  obtain ⟨a, len, cap, zs, e4, hr, h1, h2, h3, hb⟩ := row_of g4 (wt 4 34 y4 rfl rfl)
  obtain rfl : v4 = .slice a len cap := by simpa using e4
  refine ⟨⟨n0, n1, n2, n3, a, len, cap, zs⟩, rfl, ⟨hr, h3, u16_bounds w0, u32_bounds w2⟩, ?_⟩
  have hp := bulk_part (H := H) (d := y4.1) (l := [y0, y1, y2, y3, y4].map (·.1)) (by simp)
  simp only [Rows.uptoBulk]
  simp only [hr.1]
  omega
theorem msgs_arg {a : Option Addr} {n cap : Nat} (h : DataW.trod enc Try.prog W base (fun _ => true) held fuel 38 (Value.slice a n cap).cells.toList = some x) (hsz : (x.1.weights Try.prog 38).all (· ≤ reachBytes) = true) : ∃ zs, Msgs W a n zs := by
  have hb : Try.prog.bytesOf 42 = 40 := by kernel_rfl
  haveI : Inhabited MA := ⟨zMA⟩
  obtain ⟨qs, h1, h2, h3, h4, h5, _, h7, _⟩ := rows_of (X := MA) (cells := mc) (ok := OkM W) (fun q => q.zs.length) (k := 5) (by kernel_rfl) (by decide) (fun q => rfl) msg_of Try.underlying38 h hsz
  rw [hb] at h5
  exact ⟨qs, h1, h2, by omega, h3⟩
theorem ints_arg {a : Option Addr} {n cap : Nat} (h : DataW.trod enc Try.prog W base (fun _ => true) held fuel 39 (Value.slice a n cap).cells.toList = some x) (hsz : (x.1.weights Try.prog 39).all (· ≤ reachBytes) = true) : ∃ zs, Ints W a n zs := by
  have hb : Try.prog.bytesOf 3 = 8 := by kernel_rfl
  obtain ⟨qs, h1, h2, h3, h4, h5, _, h7, _⟩ := rows_of (X := Int) (cells := fun z => [.int .i64 z]) (ok := fun z => (Lit.int .i64 z).wf = true) (fun _ => 0) (k := 1) (E := 3) (by kernel_rfl) (by decide) (fun q => rfl) (fun {fuel cl x} h hs => by
    obtain ⟨s, e, rfl, hw⟩ := DataW.trod_int Try.underlying3 h
    exact ⟨s, e, hw, Nat.zero_le _⟩) Try.underlying39 h hsz
  rw [hb] at h5
  exact ⟨qs, h1, h2, by omega, h3⟩
end
end Go.Proofs.Ytfgoamfoddkafaa.Sq
