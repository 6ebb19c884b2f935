/-
  What came in: bytes, rows.
  Conditions: as at each lemma.
-/
import Derived.Test.YtjceeckcfjjkkaaObB
import Derived.Test.YtjceeckcfjjkkaaAg
import Derived.SizedLaws
namespace Go.Proofs.Ytjceeckcfjjkkaa.Ob
open Go.ChangeShapes Go.WideShapes Go.ChangeAt Go.RowKit Go.Deep
open Ba (hidden Has Only cell_lt heap_lt)
set_option linter.unusedVariables false

theorem u8_bounds {n : Int} (h : (Lit.int .u8 n).wf = true) : 0 ≤ n ∧ n < 256 := by
  simp [Lit.wf, IntKind.min, IntKind.max, IntKind.signed, IntKind.bits] at h
  omega
theorem bulk_one {H : Type} (d : DataW H) : 1 ≤ Rows.uptoBulk d := by
  cases d with
  | lit l => cases l <;> simp [Rows.uptoBulk]
  | nil => simp [Rows.uptoBulk]
  | ptr d => simp [Rows.uptoBulk]
  | slice elems spare => simp [Rows.uptoBulk]
  | agg parts => simp [Rows.uptoBulk]
  | iface t d => simp [Rows.uptoBulk]
  | map entries => simp [Rows.uptoBulk]
  | held h => simp [Rows.uptoBulk]
theorem bulk_len {H : Type} (l : List (DataW H)) : l.length ≤ Rows.uptoBulkAll l := by
  induction l with
  | nil => simp [Rows.uptoBulkAll]
  | cons x r ih => have := bulk_one x; simp only [Rows.uptoBulkAll, List.length_cons]; omega
theorem bulk_part {H : Type} {d : DataW H} {l : List (DataW H)} (h : d ∈ l) : Rows.uptoBulk d ≤ Rows.uptoBulkAll l := by
  induction l with
  | nil => cases h
  | cons x r ih =>
    simp only [Rows.uptoBulkAll]
    cases List.mem_cons.1 h with
    | inl e => subst e; omega
    | inr e => have := ih e; omega
theorem bulk_sum {H X : Type} (f : Nat → X) (D : Nat → DataW H) (wt : X → Nat) : ∀ l : List Nat, (∀ i ∈ l, wt (f i) ≤ Rows.uptoBulk (D i)) → ((l.map f).map wt).sum ≤ Rows.uptoBulkAll (l.map D)
  | [], _ => by simp [Rows.uptoBulkAll]
  | i :: l, h => by
    have h1 := h i (by simp)
    have h2 := bulk_sum f D wt l (fun j hj => h j (by simp [hj]))
    simp only [List.map_cons, List.sum_cons, Rows.uptoBulkAll]
    omega
section
variable {H : Type} {enc : TypeId × Value → H} {W : World} {base : Nat} {held : Bool} {fuel : Nat} {cl : List Value} {x : DataW H × List MemPlace}
/-- a slice of bytes that came in, by its cells -/
theorem row_of (h : DataW.trod enc Try.prog W base (fun _ => true) held fuel 38 cl = some x) (hsz : (x.1.weights Try.prog 38).all (· ≤ reachBytes) = true) :
    ∃ a len cap zs, cl = [.slice a len cap] ∧ Row W a len zs ∧ len ≤ cap ∧ cap ≤ 140737488351232 ∧ (a = none → len = 0 ∧ cap = 0) ∧ len ≤ Rows.uptoBulk x.1 := by
  have h5 : Try.prog.bytesOf 5 = 1 := by kernel_rfl
  rcases open_ints Try.underlying38 Try.underlying5 (by kernel_rfl) h with ⟨hcs, _⟩ | ⟨y, len, cap, zs, hcs, _, hl, hm, hz, rfl, hcell, hwz⟩
  · exact ⟨none, 0, 0, [], hcs, Row.nil _ _, by decide, by decide, (fun _ => ⟨rfl, rfl⟩), Nat.zero_le _⟩
  · simp only [if_pos] at hz
    simp only [DataW.weights, Try.underlying38, List.all_cons, Bool.and_eq_true, decide_eq_true_eq, h5, Nat.mul_one] at hsz
    have hs1 := hsz.1
    unfold reachBytes at hs1
    simp only [lits, List.length_map, List.length_take, List.length_drop] at hs1
    have hb : Bytes (zs.take len) := fun n hn => u8_bounds (hwz n (List.mem_of_mem_take hn))
    refine ⟨some y, len, cap, zs.take len, hcs, ⟨by rw [List.length_take]; omega, hb, by omega, ?_⟩, hl, by omega, (fun h => by cases h), ?_⟩
    · rcases Nat.eq_zero_or_pos len with h0 | hpos
      · exact .inl h0
      · obtain ⟨b, off, rfl, hc'⟩ := ints_at hcell (by omega)
        refine .inr ⟨b, off, rfl, fun j hj => ?_⟩
        rw [hc' j (by omega), List.getD_eq_getElem?_getD, List.getD_eq_getElem?_getD, List.getElem?_take, if_pos hj]
    · have := bulk_len (H := H) (lits .u8 (zs.take len))
      simp only [lits, List.length_map, List.length_take] at this
      simp only [Rows.uptoBulk, lits]
      omega
theorem row_arg {a : Option Addr} {len cap : Nat} (h : DataW.trod enc Try.prog W base (fun _ => true) held fuel 38 (Value.slice a len cap).cells.toList = some x) (hsz : (x.1.weights Try.prog 38).all (· ≤ reachBytes) = true) :
    ∃ zs, Row W a len zs ∧ len ≤ cap ∧ cap ≤ 140737488351232 ∧ (a = none → len = 0 ∧ cap = 0) := by
  obtain ⟨a', len', cap', zs, e, h1, h2, h3, h4, _⟩ := row_of h hsz
  simp [Value.cells] at e
  obtain ⟨rfl, rfl, rfl⟩ := e
  exact ⟨zs, h1, h2, h3, h4⟩
/-- rows of elements that came in -/
theorem rows_of {T E : TypeId} {k : Nat} {X : Type} [Inhabited X] {cells : X → List Value} {ok : X → Prop} (wt : X → Nat) (hk : Try.prog.cellsOf E = k) (kp : 0 < k) (kl : ∀ q, (cells q).length = k)
    (elem : ∀ {fuel : Nat} {cl : List Value} {x : DataW H × List MemPlace}, DataW.trod enc Try.prog W base (fun _ => true) held fuel E cl = some x → (x.1.weights Try.prog E).all (· ≤ reachBytes) = true → ∃ q, cl = cells q ∧ ok q ∧ wt q ≤ Rows.uptoBulk x.1)
    (hT : Try.prog.underlying T = some (.slice E)) {a : Option Addr} {n cap : Nat} (h : DataW.trod enc Try.prog W base (fun _ => true) held fuel T (Value.slice a n cap).cells.toList = some x) (hsz : (x.1.weights Try.prog T).all (· ≤ reachBytes) = true) :
    ∃ zs : List X, zs.length = n ∧ (∀ z ∈ zs, ok z) ∧ (n = 0 ∨ ∃ b off, a = some ⟨b, off, none⟩ ∧ ∀ j z, zs[j]? = some z → ∀ c u, (cells z)[c]? = some u → W.cell? ⟨b, off + j * k + c, none⟩ = some u) ∧
      n ≤ cap ∧ cap * Try.prog.bytesOf E ≤ 140737488351232 ∧ (a = none → n = 0 ∧ cap = 0) ∧ (zs.map wt).sum ≤ Rows.uptoBulk x.1 ∧ n ≤ Rows.uptoBulk x.1 := by
  rcases open_slice hT h with ⟨hcs, _⟩ | ⟨ad, l, c, m, nn, Dt, Pl, hcs, _, hl, hm, hmm, rfl, hx⟩
  · simp [Value.cells] at hcs
    obtain ⟨rfl, rfl, rfl⟩ := hcs
    exact ⟨[], rfl, by simp, .inl rfl, Nat.le_refl _, by omega, (fun _ => ⟨rfl, rfl⟩), by simp, Nat.zero_le _⟩
  · simp [Value.cells] at hcs
    obtain ⟨rfl, rfl, rfl⟩ := hcs
    simp only [if_pos] at hmm
    subst hmm
    simp only [DataW.weights, hT, List.all_cons, Bool.and_eq_true, decide_eq_true_eq, List.all_append, List.length_map, List.length_range] at hsz
    obtain ⟨hs1, hs2, _⟩ := hsz
    have hcb : m * Try.prog.bytesOf E ≤ 140737488351232 := by
      unfold reachBytes at hs1
      rw [show n + (m - n) = m by omega] at hs1
      exact hs1
    have each : ∀ i, i < n → ∃ q : X, (ok q ∧ ∀ j u, (cells q)[j]? = some u → W.cell? (ad.add (i * k + j)) = some u) ∧ wt q ≤ Rows.uptoBulk (Dt i) := by
      intro i hi
      obtain ⟨cs', h1, h2⟩ := hx i (by omega)
      rw [hk] at h1
      obtain ⟨_, hlen, hcell⟩ := World.cells?_some h1
      obtain ⟨q, rfl, hq, hw⟩ := elem h2 (List.all_eq_true.2 fun m hm => List.all_eq_true.1 hs2 m (Ag.weightsAll_mem (d := Dt i) (List.mem_map.2 ⟨i, List.mem_range.2 hi, rfl⟩) m hm))
      refine ⟨q, ⟨hq, fun j u hj => ?_⟩, hw⟩
      have hjl := (List.getElem?_eq_some_iff.1 hj).1
      have e1 := hcell j (by rw [← hlen]; exact hjl)
      rw [Ag.add_add] at e1
      rw [e1]
      exact hj
    obtain ⟨f, hf⟩ := Ag.choose_any each
    refine ⟨(List.range n).map f, by simp, fun q hq => ?_, ?_, hl, hcb, (fun h => by cases h), ?_, ?_⟩
    · obtain ⟨j, hj, rfl⟩ := List.mem_map.1 hq
      exact (hf j (List.mem_range.1 hj)).1.1
    · rcases Nat.eq_zero_or_pos n with h0 | hpos
      · exact .inl h0
      · obtain ⟨b, off, spot⟩ := ad
        obtain ⟨u0, hu0⟩ : ∃ u, (cells (f 0))[0]? = some u := ⟨_, List.getElem?_eq_getElem (by rw [kl]; exact kp)⟩
        have hspot : spot = none := by simpa [Addr.add] using World.cell?_spot ((hf 0 hpos).1.2 0 _ hu0)
        subst hspot
        have hadd : ∀ i : Nat, (⟨b, off, none⟩ : Addr).add i = ⟨b, off + i, none⟩ := fun i => by rw [Go.WideShapes.add_plain]
        refine .inr ⟨b, off, rfl, fun j z hj c u hu => ?_⟩
        have hjl : j < n := by have := (List.getElem?_eq_some_iff.1 hj).1; simpa using this
        rw [List.getElem?_map, List.getElem?_range hjl] at hj
        cases hj
        have r := (hf j hjl).1.2 c u hu
        rw [hadd, ← Nat.add_assoc] at r
        exact r
    · have := bulk_sum f Dt wt (List.range n) (fun i hi => (hf i (List.mem_range.1 hi)).2)
      simp only [Rows.uptoBulk]
      omega
    · have := bulk_len ((List.range n).map Dt)
      simp only [List.length_map, List.length_range] at this
      simp only [Rows.uptoBulk]
      omega
theorem field_at {fs : Array Field} {L : Array (Nat × TypeId)} (h : fs.map (fun f => (f.offset, f.type)) = L) {i o : Nat} {t : TypeId} (hi : L[i]? = some (o, t)) : ∃ f, fs[i]? = some f ∧ f.offset = o ∧ f.type = t := by
  rw [← h, Array.getElem?_map] at hi
  cases hf : fs[i]? with
  | none => rw [hf] at hi; cases hi
  | some f =>
    rw [hf] at hi
    simp at hi
    exact ⟨f, rfl, hi.1, hi.2⟩
end
/-- rows of elements that came in -/
def Els {X : Type} (k : Nat) (cells : X → List Value) (ok : World → X → Prop) (W : World) (a : Option Addr) (n : Nat) (zs : List X) : Prop :=
  zs.length = n ∧ (∀ z ∈ zs, ok W z) ∧ n ≤ 140737488355328 ∧ (n = 0 ∨ ∃ b off, a = some ⟨b, off, none⟩ ∧ ∀ j z, zs[j]? = some z → ∀ c u, (cells z)[c]? = some u → W.cell? ⟨b, off + j * k + c, none⟩ = some u)
theorem u16_bounds {n : Int} (h : (Lit.int .u16 n).wf = true) : 0 ≤ n ∧ n < 65536 := by
  simp [Lit.wf, IntKind.min, IntKind.max, IntKind.signed, IntKind.bits] at h
  omega
theorem u32_bounds {n : Int} (h : (Lit.int .u32 n).wf = true) : 0 ≤ n ∧ n < 4294967296 := by
  simp [Lit.wf, IntKind.min, IntKind.max, IntKind.signed, IntKind.bits] at h
  omega
/-- the element at a place, in a later world -/
theorem Els.at {X : Type} {k : Nat} {cells : X → List Value} {ok : World → X → Prop} {w x : World} {a : Option Addr} {n : Nat} {zs : List X} (h : Els k cells ok w a n zs) (hB : Below w.heap.size w x) {j : Nat} (hj : j < n) : ∃ b off z, a = some ⟨b, off, none⟩ ∧ zs[j]? = some z ∧ ok w z ∧ ∀ c u, (cells z)[c]? = some u → x.cell? ⟨b, off + j * k + c, none⟩ = some u := by
  obtain ⟨h1, h2, h3, h4⟩ := h
  rcases h4 with h4 | ⟨b, off, rfl, hc⟩
  · omega
  obtain ⟨z, hz⟩ : ∃ z, zs[j]? = some z := ⟨_, List.getElem?_eq_getElem (by omega)⟩
  exact ⟨b, off, z, rfl, hz, h2 z (List.mem_of_getElem? hz), fun c u hu => (hB.cell (p := ⟨b, off + j * k + c, none⟩) (cell_lt (hc j z hz c u hu))).trans (hc j z hz c u hu)⟩
end Go.Proofs.Ytjceeckcfjjkkaa.Ob
