/-
  What came in: rows of elements of any kind that is read without a place, and such elements by value.
  Conditions: the rows were read as the statements read them.
-/
import Derived.WalkKit
import Derived.ProofKit
import Derived.OpenShut
import Derived.SizedLaws
import Derived.Below
import Derived.Deep.Slices
import Derived.Deep.SlicePairs
import Derived.Deep.Strs
import Derived.ChangeArms
namespace Go.Proofs.YtdifceikfnnfeaaDoor.Ag
open Go.RowKit Go.ChangeShapes Go.WideShapes Go.ChangeAt Go.Deep
set_option linter.unusedVariables false

theorem weightsAll_mem {H : Type} {P : Program} {e : TypeId} : ∀ {l : List (DataW H)} {d : DataW H}, d ∈ l → ∀ n ∈ d.weights P e, n ∈ DataW.weightsAll P e l
  | x :: l, d, hd, n, hn => by
    unfold DataW.weightsAll
    cases List.mem_cons.1 hd with
    | inl h => subst h; exact List.mem_append_left _ hn
    | inr h => exact List.mem_append_right _ (weightsAll_mem h n hn)
theorem choose_any {X : Type} [Inhabited X] {n : Nat} {p : Nat → X → Prop} (h : ∀ i, i < n → ∃ q, p i q) : ∃ f : Nat → X, ∀ i, i < n → p i (f i) := by
  refine ⟨fun i => if hi : i < n then (h i hi).choose else default, fun i hi => ?_⟩
  simp only [hi, dif_pos]
  exact (h i hi).choose_spec
/-- how an element's cells are read -/
structure Kind (P : Program) (E : TypeId) (k : Nat) {X : Type} (cells : X → List Value) (ok : X → Prop) : Prop where
  size : P.cellsOf E = k
  pos : 0 < k
  len : ∀ x, (cells x).length = k
  elem : ∀ {H : Type} {enc : TypeId × Value → H} {W : World} {base : Nat} {held : Bool} {fuel : Nat} {cl : List Value} {x : DataW H × List MemPlace}, DataW.trod enc P W base (fun _ => true) held fuel E cl = some x → (x.1.weights P E).all (· ≤ reachBytes) = true → ∃ q, cl = cells q ∧ ok q
/-- a row of such elements -/
def Rows {X : Type} (cells : X → List Value) (ok : X → Prop) (k : Nat) (w : World) (a : Option Addr) (n : Nat) (zs : List X) : Prop :=
  zs.length = n ∧ (∀ z ∈ zs, ok z) ∧ n ≤ 140737488355328 ∧ (n = 0 ∨ ∃ b off, a = some ⟨b, off, none⟩ ∧ b < w.heap.size ∧ ∀ j z, zs[j]? = some z → ∀ c u, (cells z)[c]? = some u → w.cell? ⟨b, off + j * k + c, none⟩ = some u)
theorem Rows.later {X : Type} {cells : X → List Value} {ok : X → Prop} {k : Nat} {w w' : World} {a : Option Addr} {n : Nat} {zs : List X} (h : Rows cells ok k w a n zs) (hB : Below w.heap.size w w') : Rows cells ok k w' a n zs := by
  obtain ⟨h1, h2, h3, h4⟩ := h
  refine ⟨h1, h2, h3, h4.imp id ?_⟩
  rintro ⟨b, off, rfl, hb, hc⟩
  exact ⟨b, off, rfl, Nat.lt_of_lt_of_le hb hB.size, fun j z hz c u hu => (hB.cell (p := ⟨b, off + j * k + c, none⟩) hb).trans (hc j z hz c u hu)⟩
theorem add_add (a : Addr) (i j : Nat) : (a.add i).add j = a.add (i + j) := by
  unfold Addr.add
  by_cases hi : i = 0
  · subst hi; simp
  · by_cases hj : j = 0
    · subst hj; simp [hi]
    · simp [hi, hj, Nat.add_assoc]
theorem rows_arg {P : Program} {T E : TypeId} {k : Nat} {X : Type} [Inhabited X] {cells : X → List Value} {ok : X → Prop} (K : Kind P E k cells ok) (hT : P.underlying T = some (.slice E)) (hb : 1 ≤ P.bytesOf E) {H : Type} {enc : TypeId × Value → H} {W : World} {base : Nat} {held : Bool} {fuel : Nat} {a : Option Addr} {n cap : Nat} {x : DataW H × List MemPlace}
    (h : DataW.trod enc P W base (fun _ => true) held fuel T (Value.slice a n cap).cells.toList = some x) (hsz : (x.1.weights P T).all (· ≤ reachBytes) = true) :
    ∃ zs, Rows cells ok k W a n zs ∧ n ≤ cap ∧ cap * P.bytesOf E ≤ 140737488351232 ∧ (a = none → n = 0 ∧ cap = 0) := by
  rcases open_slice hT h with ⟨hcs, _⟩ | ⟨ad, l, c, m, nn, Dt, Pl, hcs, _, hl, hm, hmm, rfl, hx⟩
  · simp [Value.cells] at hcs
    obtain ⟨rfl, rfl, rfl⟩ := hcs
    exact ⟨[], ⟨rfl, by simp, by decide, .inl rfl⟩, Nat.le_refl _, by omega, fun _ => ⟨rfl, rfl⟩⟩
  · simp [Value.cells] at hcs
    obtain ⟨rfl, rfl, rfl⟩ := hcs
    simp only [if_pos] at hmm
    subst hmm
    simp only [DataW.weights, hT, List.all_cons, Bool.and_eq_true, decide_eq_true_eq, List.all_append, List.length_map, List.length_range] at hsz
    obtain ⟨hs1, hs2, _⟩ := hsz
    have hcb : m * P.bytesOf E ≤ 140737488351232 := by
      unfold reachBytes at hs1
      rw [show n + (m - n) = m by omega] at hs1
      exact hs1
    have hcn : m ≤ 140737488351232 := Nat.le_trans (Nat.le_mul_of_pos_right m hb) hcb
    have each : ∀ i, i < n → ∃ q : X, ok q ∧ ∀ j u, (cells q)[j]? = some u → W.cell? (ad.add (i * k + j)) = some u := by
      intro i hi
      obtain ⟨cs', h1, h2⟩ := hx i (by omega)
      rw [K.size] at h1
      obtain ⟨_, hlen, hcell⟩ := World.cells?_some h1
      obtain ⟨q, rfl, hq⟩ := K.elem h2 (List.all_eq_true.2 fun m hm => List.all_eq_true.1 hs2 m (weightsAll_mem (d := Dt i) (List.mem_map.2 ⟨i, List.mem_range.2 hi, rfl⟩) m hm))
      refine ⟨q, hq, fun j u hj => ?_⟩
      have hjl := (List.getElem?_eq_some_iff.1 hj).1
      have e1 := hcell j (by rw [← hlen]; exact hjl)
      rw [add_add] at e1
      rw [e1]
      exact hj
    obtain ⟨f, hf⟩ := choose_any each
    refine ⟨(List.range n).map f, ⟨by simp, fun q hq => ?_, by omega, ?_⟩, hl, hcb, fun h => by cases h⟩
    · obtain ⟨j, hj, rfl⟩ := List.mem_map.1 hq
      exact (hf j (List.mem_range.1 hj)).1
    · rcases Nat.eq_zero_or_pos n with h0 | hpos
      · exact .inl h0
      · obtain ⟨b, off, spot⟩ := ad
        obtain ⟨u0, hu0⟩ : ∃ u, (cells (f 0))[0]? = some u := ⟨_, List.getElem?_eq_getElem (by rw [K.len]; exact K.pos)⟩
        have hspot : spot = none := by simpa [Addr.add] using World.cell?_spot ((hf 0 hpos).2 0 _ hu0)
        subst hspot
        have hadd : ∀ i : Nat, (⟨b, off, none⟩ : Addr).add i = ⟨b, off + i, none⟩ := fun i => by rw [Go.WideShapes.add_plain]
        refine .inr ⟨b, off, rfl, ?_, fun j z hj c u hu => ?_⟩
        · have := (hf 0 hpos).2 0 _ hu0
          rw [hadd] at this
          exact World.block_lt_of_cell? W _ this
        · have hjl : j < n := by have := (List.getElem?_eq_some_iff.1 hj).1; simpa using this
          rw [List.getElem?_map, List.getElem?_range hjl] at hj
          cases hj
          have r := (hf j hjl).2 c u hu
          rw [hadd, ← Nat.add_assoc] at r
          exact r
/-- one by value -/
theorem one_arg {P : Program} {E : TypeId} {k : Nat} {X : Type} {cells : X → List Value} {ok : X → Prop} (K : Kind P E k cells ok) {fs : Array Field} (hE : P.underlying E = some (.struct fs)) {H : Type} {enc : TypeId × Value → H} {W : World} {base : Nat} {held : Bool} {fuel : Nat} {v : Value} {x : DataW H × List MemPlace} {b0 : Nat} {r : Reach}
    (hval : Value.okWide P W r b0 E v) (h : DataW.trod enc P W base (fun _ => true) held fuel E v.cells.toList = some x) (hsz : (x.1.weights P E).all (· ≤ reachBytes) = true) : ∃ q, v = .agg (cells q).toArray ∧ ok q := by
  obtain ⟨q, hc, hk⟩ := K.elem h hsz
  refine ⟨q, ?_, hk⟩
  obtain ⟨cs, rfl, _⟩ := okWide_struct hE hval
  have e : cs.toList = cells q := hc
  rw [← e]
theorem kind_int {P : Program} {E : TypeId} {κ : IntKind} (hE : P.underlying E = some (.int κ)) (hs : P.cellsOf E = 1) : Kind P E 1 (fun n : Int => [.int κ n]) (fun n => (Lit.int κ n).wf = true) :=
  ⟨hs, by decide, fun _ => rfl, fun h _ => by obtain ⟨n, e, _, w⟩ := DataW.trod_int hE h; exact ⟨n, e, w⟩⟩
/-- a struct of two, of three -/
theorem kind2 {P : Program} {E : TypeId} {f0 f1 : Field} {κ0 κ1 : IntKind} (hE : P.underlying E = some (.struct #[f0, f1])) (hs : P.cellsOf E = 2) (o0 : f0.offset = 0) (o1 : f1.offset = 1) (u0 : P.underlying f0.type = some (.int κ0)) (u1 : P.underlying f1.type = some (.int κ1)) (c0 : P.cellsOf f0.type = 1) (c1 : P.cellsOf f1.type = 1) :
    Kind P E 2 (fun q : Int × Int => [.int κ0 q.1, .int κ1 q.2]) (fun q => (Lit.int κ0 q.1).wf = true ∧ (Lit.int κ1 q.2).wf = true) := by
  refine ⟨hs, by decide, fun _ => rfl, fun {H enc W base held fuel cl x} h _ => ?_⟩
  obtain ⟨xs, n, _, _, hcl, hxl, hfield⟩ := DataW.trod_struct hE h
  rw [hs] at hcl
  match cl, hcl with
  | [v0, v1], _ =>
    match xs, hxl with
    | [y0, y1], _ =>
      have g0 := hfield 0 f0 rfl
      have g1 := hfield 1 f1 rfl
      rw [o0, c0] at g0
      rw [o1, c1] at g1
      simp at g0 g1
      obtain ⟨n0, e0, _, w0⟩ := DataW.trod_int u0 g0
      obtain ⟨n1, e1, _, w1⟩ := DataW.trod_int u1 g1
      simp at e0 e1
      subst e0; subst e1
      exact ⟨(n0, n1), rfl, w0, w1⟩
theorem kind3 {P : Program} {E : TypeId} {f0 f1 f2 : Field} {κ0 κ1 κ2 : IntKind} (hE : P.underlying E = some (.struct #[f0, f1, f2])) (hs : P.cellsOf E = 3) (o0 : f0.offset = 0) (o1 : f1.offset = 1) (o2 : f2.offset = 2) (u0 : P.underlying f0.type = some (.int κ0)) (u1 : P.underlying f1.type = some (.int κ1)) (u2 : P.underlying f2.type = some (.int κ2)) (c0 : P.cellsOf f0.type = 1) (c1 : P.cellsOf f1.type = 1) (c2 : P.cellsOf f2.type = 1) :
    Kind P E 3 (fun q : Int × Int × Int => [.int κ0 q.1, .int κ1 q.2.1, .int κ2 q.2.2]) (fun q => (Lit.int κ0 q.1).wf = true ∧ (Lit.int κ1 q.2.1).wf = true ∧ (Lit.int κ2 q.2.2).wf = true) := by
  refine ⟨hs, by decide, fun _ => rfl, fun {H enc W base held fuel cl x} h _ => ?_⟩
  obtain ⟨xs, n, _, _, hcl, hxl, hfield⟩ := DataW.trod_struct hE h
  rw [hs] at hcl
  match cl, hcl with
  | [v0, v1, v2], _ =>
    match xs, hxl with
    | [y0, y1, y2], _ =>
      have g0 := hfield 0 f0 rfl
      have g1 := hfield 1 f1 rfl
      have g2 := hfield 2 f2 rfl
      rw [o0, c0] at g0
      rw [o1, c1] at g1
      rw [o2, c2] at g2
      simp at g0 g1 g2
      obtain ⟨n0, e0, _, w0⟩ := DataW.trod_int u0 g0
      obtain ⟨n1, e1, _, w1⟩ := DataW.trod_int u1 g1
      obtain ⟨n2, e2, _, w2⟩ := DataW.trod_int u2 g2
      simp at e0 e1 e2
      subst e0; subst e1; subst e2
      exact ⟨(n0, n1, n2), rfl, w0, w1, w2⟩
end Go.Proofs.YtdifceikfnnfeaaDoor.Ag
