/-
  What came in: bytes, pieces, strings.
  Conditions: as at each lemma.
-/
import Derived.Test.YteomkmbaoaahoaaFrB
import Derived.Test.YteomkmbaoaahoaaAg
import Derived.SizedLaws
namespace Go.Proofs.Yteomkmbaoaahoaa.Fr
open Go.ChangeShapes Go.WideShapes Go.ChangeAt Go.RowKit Go.Deep
open Ba (hidden Has Only cell_lt heap_lt)
set_option linter.unusedVariables false

theorem u8_bounds {n : Int} (h : (Lit.int .u8 n).wf = true) : 0 ≤ n ∧ n < 256 := by
  simp [Lit.wf, IntKind.min, IntKind.max, IntKind.signed, IntKind.bits] at h
  omega
theorem bulk_one {H : Type} (d : DataW H) : 1 ≤ Rows.uptoBulk d := by
  cases d with
  | lit l => cases l <;> simp [Rows.uptoBulk]
  | nil => simp [Rows.uptoBulk]
  | ptr d => simp [Rows.uptoBulk]
  | slice elems spare => simp [Rows.uptoBulk]
  | agg parts => simp [Rows.uptoBulk]
  | iface t d => simp [Rows.uptoBulk]
  | map entries => simp [Rows.uptoBulk]
  | held h => simp [Rows.uptoBulk]
theorem bulk_len {H : Type} (l : List (DataW H)) : l.length ≤ Rows.uptoBulkAll l := by
  induction l with
  | nil => simp [Rows.uptoBulkAll]
  | cons x r ih => have := bulk_one x; simp only [Rows.uptoBulkAll, List.length_cons]; omega
theorem bulk_part {H : Type} {d : DataW H} {l : List (DataW H)} (h : d ∈ l) : Rows.uptoBulk d ≤ Rows.uptoBulkAll l := by
  induction l with
  | nil => cases h
  | cons x r ih =>
    simp only [Rows.uptoBulkAll]
    cases List.mem_cons.1 h with
    | inl e => subst e; omega
    | inr e => have := ih e; omega
theorem bulk_sum {H X : Type} (f : Nat → X) (D : Nat → DataW H) (wt : X → Nat) : ∀ l : List Nat, (∀ i ∈ l, wt (f i) ≤ Rows.uptoBulk (D i)) → ((l.map f).map wt).sum ≤ Rows.uptoBulkAll (l.map D)
  | [], _ => by simp [Rows.uptoBulkAll]
  | i :: l, h => by
    have h1 := h i (by simp)
    have h2 := bulk_sum f D wt l (fun j hj => h j (by simp [hj]))
    simp only [List.map_cons, List.sum_cons, Rows.uptoBulkAll]
    omega
section
variable {H : Type} {enc : TypeId × Value → H} {W : World} {base : Nat} {held : Bool} {fuel : Nat} {cl : List Value} {x : DataW H × List MemPlace}
/-- a slice of bytes that came in, by its cells -/
theorem row_of (h : DataW.trod enc Try.prog W base (fun _ => true) held fuel 22 cl = some x) (hsz : (x.1.weights Try.prog 22).all (· ≤ reachBytes) = true) :
    ∃ a len cap zs, cl = [.slice a len cap] ∧ Row W a len zs ∧ len ≤ cap ∧ cap ≤ 140737488351232 ∧ (a = none → len = 0 ∧ cap = 0) ∧ len ≤ Rows.uptoBulk x.1 := by
  have h5 : Try.prog.bytesOf 5 = 1 := by kernel_rfl
  rcases open_ints Try.underlying22 Try.underlying5 (by kernel_rfl) h with ⟨hcs, _⟩ | ⟨y, len, cap, zs, hcs, _, hl, hm, hz, rfl, hcell, hwz⟩
  · exact ⟨none, 0, 0, [], hcs, Row.nil _ _, by decide, by decide, (fun _ => ⟨rfl, rfl⟩), Nat.zero_le _⟩
  · simp only [if_pos] at hz
    simp only [DataW.weights, Try.underlying22, List.all_cons, Bool.and_eq_true, decide_eq_true_eq, h5, Nat.mul_one] at hsz
    have hs1 := hsz.1
    unfold reachBytes at hs1
    simp only [lits, List.length_map, List.length_take, List.length_drop] at hs1
    have hb : Bytes (zs.take len) := fun n hn => u8_bounds (hwz n (List.mem_of_mem_take hn))
    refine ⟨some y, len, cap, zs.take len, hcs, ⟨by rw [List.length_take]; omega, hb, by omega, ?_⟩, hl, by omega, (fun h => by cases h), ?_⟩
    · rcases Nat.eq_zero_or_pos len with h0 | hpos
      · exact .inl h0
      · obtain ⟨b, off, rfl, hc'⟩ := ints_at hcell (by omega)
        refine .inr ⟨b, off, rfl, fun j hj => ?_⟩
        rw [hc' j (by omega), List.getD_eq_getElem?_getD, List.getD_eq_getElem?_getD, List.getElem?_take, if_pos hj]
    · have := bulk_len (H := H) (lits .u8 (zs.take len))
      simp only [lits, List.length_map, List.length_take] at this
      simp only [Rows.uptoBulk, lits]
      omega
theorem row_arg {a : Option Addr} {len cap : Nat} (h : DataW.trod enc Try.prog W base (fun _ => true) held fuel 22 (Value.slice a len cap).cells.toList = some x) (hsz : (x.1.weights Try.prog 22).all (· ≤ reachBytes) = true) :
    ∃ zs, Row W a len zs ∧ len ≤ cap ∧ cap ≤ 140737488351232 ∧ (a = none → len = 0 ∧ cap = 0) := by
  obtain ⟨a', len', cap', zs, e, h1, h2, h3, h4, _⟩ := row_of h hsz
  simp [Value.cells] at e
  obtain ⟨rfl, rfl, rfl⟩ := e
  exact ⟨zs, h1, h2, h3, h4⟩
/-- rows of elements that came in -/
theorem rows_of {T E : TypeId} {k : Nat} {X : Type} [Inhabited X] {cells : X → List Value} {ok : X → Prop} (wt : X → Nat) (hk : Try.prog.cellsOf E = k) (kp : 0 < k) (kl : ∀ q, (cells q).length = k)
    (elem : ∀ {fuel : Nat} {cl : List Value} {x : DataW H × List MemPlace}, DataW.trod enc Try.prog W base (fun _ => true) held fuel E cl = some x → (x.1.weights Try.prog E).all (· ≤ reachBytes) = true → ∃ q, cl = cells q ∧ ok q ∧ wt q ≤ Rows.uptoBulk x.1)
    (hT : Try.prog.underlying T = some (.slice E)) {a : Option Addr} {n cap : Nat} (h : DataW.trod enc Try.prog W base (fun _ => true) held fuel T (Value.slice a n cap).cells.toList = some x) (hsz : (x.1.weights Try.prog T).all (· ≤ reachBytes) = true) :
    ∃ zs : List X, zs.length = n ∧ (∀ z ∈ zs, ok z) ∧ (n = 0 ∨ ∃ b off, a = some ⟨b, off, none⟩ ∧ ∀ j z, zs[j]? = some z → ∀ c u, (cells z)[c]? = some u → W.cell? ⟨b, off + j * k + c, none⟩ = some u) ∧
      n ≤ cap ∧ cap * Try.prog.bytesOf E ≤ 140737488351232 ∧ (a = none → n = 0 ∧ cap = 0) ∧ (zs.map wt).sum ≤ Rows.uptoBulk x.1 ∧ n ≤ Rows.uptoBulk x.1 := by
  rcases open_slice hT h with ⟨hcs, _⟩ | ⟨ad, l, c, m, nn, Dt, Pl, hcs, _, hl, hm, hmm, rfl, hx⟩
  · simp [Value.cells] at hcs
    obtain ⟨rfl, rfl, rfl⟩ := hcs
    exact ⟨[], rfl, by simp, .inl rfl, Nat.le_refl _, by omega, (fun _ => ⟨rfl, rfl⟩), by simp, Nat.zero_le _⟩
  · simp [Value.cells] at hcs
    obtain ⟨rfl, rfl, rfl⟩ := hcs
    simp only [if_pos] at hmm
    subst hmm
    simp only [DataW.weights, hT, List.all_cons, Bool.and_eq_true, decide_eq_true_eq, List.all_append, List.length_map, List.length_range] at hsz
    obtain ⟨hs1, hs2, _⟩ := hsz
    have hcb : m * Try.prog.bytesOf E ≤ 140737488351232 := by
      unfold reachBytes at hs1
      rw [show n + (m - n) = m by omega] at hs1
      exact hs1
    have each : ∀ i, i < n → ∃ q : X, (ok q ∧ ∀ j u, (cells q)[j]? = some u → W.cell? (ad.add (i * k + j)) = some u) ∧ wt q ≤ Rows.uptoBulk (Dt i) := by
      intro i hi
      obtain ⟨cs', h1, h2⟩ := hx i (by omega)
      rw [hk] at h1
      obtain ⟨_, hlen, hcell⟩ := World.cells?_some h1
      obtain ⟨q, rfl, hq, hw⟩ := elem h2 (List.all_eq_true.2 fun m hm => List.all_eq_true.1 hs2 m (Ag.weightsAll_mem (d := Dt i) (List.mem_map.2 ⟨i, List.mem_range.2 hi, rfl⟩) m hm))
      refine ⟨q, ⟨hq, fun j u hj => ?_⟩, hw⟩
      have hjl := (List.getElem?_eq_some_iff.1 hj).1
      have e1 := hcell j (by rw [← hlen]; exact hjl)
      rw [Ag.add_add] at e1
      rw [e1]
      exact hj
    obtain ⟨f, hf⟩ := Ag.choose_any each
    refine ⟨(List.range n).map f, by simp, fun q hq => ?_, ?_, hl, hcb, (fun h => by cases h), ?_, ?_⟩
    · obtain ⟨j, hj, rfl⟩ := List.mem_map.1 hq
      exact (hf j (List.mem_range.1 hj)).1.1
    · rcases Nat.eq_zero_or_pos n with h0 | hpos
      · exact .inl h0
      · obtain ⟨b, off, spot⟩ := ad
        obtain ⟨u0, hu0⟩ : ∃ u, (cells (f 0))[0]? = some u := ⟨_, List.getElem?_eq_getElem (by rw [kl]; exact kp)⟩
        have hspot : spot = none := by simpa [Addr.add] using World.cell?_spot ((hf 0 hpos).1.2 0 _ hu0)
        subst hspot
        have hadd : ∀ i : Nat, (⟨b, off, none⟩ : Addr).add i = ⟨b, off + i, none⟩ := fun i => by rw [Go.WideShapes.add_plain]
        refine .inr ⟨b, off, rfl, fun j z hj c u hu => ?_⟩
        have hjl : j < n := by have := (List.getElem?_eq_some_iff.1 hj).1; simpa using this
        rw [List.getElem?_map, List.getElem?_range hjl] at hj
        cases hj
        have r := (hf j hjl).1.2 c u hu
        rw [hadd, ← Nat.add_assoc] at r
        exact r
    · have := bulk_sum f Dt wt (List.range n) (fun i hi => (hf i (List.mem_range.1 hi)).2)
      simp only [Rows.uptoBulk]
      omega
    · have := bulk_len ((List.range n).map Dt)
      simp only [List.length_map, List.length_range] at this
      simp only [Rows.uptoBulk]
      omega
theorem field_at {fs : Array Field} {L : Array (Nat × TypeId)} (h : fs.map (fun f => (f.offset, f.type)) = L) {i o : Nat} {t : TypeId} (hi : L[i]? = some (o, t)) : ∃ f, fs[i]? = some f ∧ f.offset = o ∧ f.type = t := by
  rw [← h, Array.getElem?_map] at hi
  cases hf : fs[i]? with
  | none => rw [hf] at hi; cases hi
  | some f =>
    rw [hf] at hi
    simp at hi
    exact ⟨f, rfl, hi.1, hi.2⟩
theorem list3 {α : Type} {l : List α} (h : l.length = 3) : ∃ v0 v1 v2, l = [v0, v1, v2] := by
  match l, h with
  | [v0, v1, v2], _ => exact ⟨v0, v1, v2, rfl⟩
/-- a piece and where its bytes lie -/
abbrev Q := Bool × Bool × Option Addr × Nat × List Int
def qc (q : Q) : List Value := [.bool q.1, .bool q.2.1, .slice q.2.2.1 q.2.2.2.2.length q.2.2.2.1]
def qv (q : Q) : V := (q.1, q.2.1, q.2.2.2.2)
theorem fieldsP : ∃ fs : Array Field, Try.prog.underlying 48 = some (.struct fs) ∧ fs.map (fun f => (f.offset, f.type)) = #[(0, 4), (1, 4), (2, 22)] := ⟨_, Try.underlying48, by simp⟩
theorem piece_of (h : DataW.trod enc Try.prog W base (fun _ => true) held fuel 48 cl = some x) (hsz : (x.1.weights Try.prog 48).all (· ≤ reachBytes) = true) : ∃ q : Q, cl = qc q ∧ Row W q.2.2.1 q.2.2.2.2.length q.2.2.2.2 ∧ q.2.2.2.2.length ≤ Rows.uptoBulk x.1 := by
  obtain ⟨fs, hu, hfs⟩ := fieldsP
  obtain ⟨xs, n, hf, hx, hcl, hxl, hfield⟩ := DataW.trod_struct hu h
  have hc3 : Try.prog.cellsOf 48 = 3 := by kernel_rfl
  rw [hc3] at hcl
  have hfl : fs.size = 3 := by
    have := congrArg Array.size hfs
    simpa using this
  rw [hfl] at hxl
  subst hx
  simp only [DataW.weights, hu] at hsz
  have htypes : fs.toList.map (fun f => f.type) = [4, 4, 22] := by
    have := congrArg (fun l => l.toList.map (·.2)) hfs
    simpa [Function.comp_def] using this
  rw [htypes] at hsz
  have wt : ∀ (i : Nat) (t : TypeId) (y : DataW H × List MemPlace), ([4, 4, 22] : List TypeId)[i]? = some t → xs[i]? = some y → (y.1.weights Try.prog t).all (· ≤ reachBytes) = true := by
    intro i t y ht hy
    refine List.all_eq_true.2 fun m hm => List.all_eq_true.1 hsz m (DataW.weights_mem_each (j := i) ht (by rw [List.getElem?_map, hy]; rfl) m hm)
  obtain ⟨v0, v1, v2, rfl⟩ := list3 hcl
  obtain ⟨y0, y1, y2, rfl⟩ := list3 hxl
  obtain ⟨q0, k0, o0, t0⟩ := field_at hfs (i := 0) (o := 0) (t := 4) rfl
  have g0 := hfield 0 q0 k0
  rw [o0, t0, show Try.prog.cellsOf 4 = 1 by kernel_rfl] at g0
  simp only [List.drop_zero, List.take_succ_cons, List.take_zero, List.getElem?_cons_zero] at g0
  obtain ⟨n0, e0, _⟩ := DataW.trod_bool Try.underlying4 g0
  obtain rfl : v0 = .bool n0 := by simpa using e0
  obtain ⟨q1, k1, o1, t1⟩ := field_at hfs (i := 1) (o := 1) (t := 4) rfl
  have g1 := hfield 1 q1 k1
  rw [o1, t1, show Try.prog.cellsOf 4 = 1 by kernel_rfl] at g1
  simp only [List.drop_zero, List.drop_succ_cons, List.take_succ_cons, List.take_zero, List.getElem?_cons_zero, List.getElem?_cons_succ] at g1
  obtain ⟨n1, e1, _⟩ := DataW.trod_bool Try.underlying4 g1
  obtain rfl : v1 = .bool n1 := by simpa using e1
  obtain ⟨q2, k2, o2, t2⟩ := field_at hfs (i := 2) (o := 2) (t := 22) rfl
  have g2 := hfield 2 q2 k2
  rw [o2, t2, show Try.prog.cellsOf 22 = 1 by kernel_rfl] at g2
  simp only [List.drop_zero, List.drop_succ_cons, List.take_succ_cons, List.take_zero, List.getElem?_cons_zero, List.getElem?_cons_succ] at g2
  obtain ⟨a, len, cap, zs, e2, hr, _, _, _, hb⟩ := row_of g2 (wt 2 22 y2 rfl rfl)
  obtain rfl : v2 = .slice a len cap := by simpa using e2
  refine ⟨(n0, n1, a, cap, zs), by simp only [qc, hr.1], by simp only; rw [hr.1]; exact hr, ?_⟩
  have hp := bulk_part (H := H) (d := y2.1) (l := [y0, y1, y2].map (·.1)) (by simp)
  simp only [Rows.uptoBulk]
  simp only [hr.1]
  omega
theorem pcs_arg {a : Option Addr} {n cap : Nat} (h : DataW.trod enc Try.prog W base (fun _ => true) held fuel 23 (Value.slice a n cap).cells.toList = some x) (hsz : (x.1.weights Try.prog 23).all (· ≤ reachBytes) = true) :
    ∃ vs : List V, Pcs W a n vs ∧ n ≤ cap ∧ (flat vs).length ≤ Rows.uptoBulk x.1 := by
  have hb : Try.prog.bytesOf 48 = 32 := by kernel_rfl
  obtain ⟨qs, h1, h2, h3, h4, h5, _, h7, _⟩ := rows_of (X := Q) (cells := qc) (ok := fun q => Row W q.2.2.1 q.2.2.2.2.length q.2.2.2.2) (fun q => q.2.2.2.2.length) (k := 3) (by kernel_rfl) (by decide) (fun q => rfl) piece_of Try.underlying23 h hsz
  rw [hb] at h5
  have e : (flat (qs.map qv)).length = (qs.map fun q => q.2.2.2.2.length).sum := by
    unfold flat
    rw [List.length_flatMap, List.map_map]
    rfl
  refine ⟨qs.map qv, ⟨by simp [h1], by omega, h3.imp id ?_⟩, h4, by rw [e]; exact h7⟩
  rintro ⟨b, off, rfl, hc⟩
  refine ⟨b, off, rfl, fun j v hj => ?_⟩
  rw [List.getElem?_map] at hj
  cases hq : qs[j]? with
  | none => rw [hq] at hj; cases hj
  | some q =>
    rw [hq] at hj
    simp only [Option.map_some, Option.some.injEq] at hj
    subst hj
    exact ⟨q.2.2.1, q.2.2.2.1, hc j q hq 0 _ rfl, hc j q hq 1 _ rfl, hc j q hq 2 _ rfl, h2 q (List.mem_of_getElem? hq)⟩
/-- the bytes of a string -/
def bytesOf (s : ByteArray) : List Int := s.data.toList.map fun c => (c.toNat : Int)
theorem bytesOf_len (s : ByteArray) : (bytesOf s).length = s.size := by
  show (s.data.toList.map _).length = s.data.size
  rw [List.length_map, Array.length_toList]
/-- strings that can be read -/
def Strs (w : World) (a : Option Addr) (n : Nat) (ss : List ByteArray) : Prop := ss.length = n ∧ (n = 0 ∨ ∃ b off, a = some ⟨b, off, none⟩ ∧ ∀ j s, ss[j]? = some s → w.cell? ⟨b, off + j, none⟩ = some (.string s))
theorem Strs.later {w w' : World} {a : Option Addr} {n : Nat} {ss : List ByteArray} (h : Strs w a n ss) (hB : Below w.heap.size w w') : Strs w' a n ss := by
  refine ⟨h.1, h.2.imp id ?_⟩
  rintro ⟨b, off, rfl, hc⟩
  exact ⟨b, off, rfl, fun j s hj => (hB.cell (cell_lt (hc j s hj))).trans (hc j s hj)⟩
theorem strs_arg {a : Option Addr} {n cap : Nat} (h : DataW.trod enc Try.prog W base (fun _ => true) held fuel 50 (Value.slice a n cap).cells.toList = some x) (hsz : (x.1.weights Try.prog 50).all (· ≤ reachBytes) = true) :
    ∃ ss : List ByteArray, Strs W a n ss ∧ (ss.map (·.size)).sum ≤ Rows.uptoBulk x.1 ∧ n ≤ Rows.uptoBulk x.1 := by
  obtain ⟨qs, h1, h2, h3, h4, h5, _, h7, h8⟩ := rows_of (X := ByteArray) (cells := fun s => [.string s]) (ok := fun _ => True) (fun s => s.size) (k := 1) (E := 9) (by kernel_rfl) (by decide) (fun q => rfl) (fun {fuel cl x} h hs => by
    obtain ⟨s, e, rfl, _⟩ := DataW.trod_string Try.underlying9 h
    refine ⟨s, e, trivial, ?_⟩
    show s.data.size ≤ s.data.toList.length + 1
    rw [Array.length_toList]
    omega) Try.underlying50 h hsz
  refine ⟨qs, ⟨h1, h3.imp id ?_⟩, h7, h8⟩
  rintro ⟨b, off, rfl, hc⟩
  refine ⟨b, off, rfl, fun j s hj => ?_⟩
  have := hc j s hj 0 _ rfl
  simpa using this
end
end Go.Proofs.Yteomkmbaoaahoaa.Fr
