/-
  What came in: a row of bytes, a list of parameters.
  Conditions: as at each lemma.
-/
import Derived.Test.YtmnndkhdekpecaaGreatDoorPa
import Derived.Deep.SlicePairs
import Derived.SizedLaws
namespace Go.Proofs.YtmnndkhdekpecaaGreatDoor.Par
open Go.ChangeShapes Go.WideShapes Go.ChangeAt Go.RowKit Go.Deep
set_option linter.unusedVariables false

theorem u8_bounds {n : Int} (h : (Lit.int .u8 n).wf = true) : 0 ≤ n ∧ n < 256 := by
  simp [Lit.wf, IntKind.min, IntKind.max, IntKind.signed, IntKind.bits] at h
  omega
theorem u16_bounds {n : Int} (h : (Lit.int .u16 n).wf = true) : 0 ≤ n ∧ n < 65536 := by
  simp [Lit.wf, IntKind.min, IntKind.max, IntKind.signed, IntKind.bits] at h
  omega
/-- a slice of bytes that came in, by its cells -/
theorem row_of {H : Type} {enc : TypeId × Value → H} {W : World} {base : Nat} {held : Bool} {fuel : Nat} {cl : List Value} {x : DataW H × List MemPlace}
    (h : DataW.trod enc Tryz.prog W base (fun _ => true) held fuel 27 cl = some x)
    (hsz : ∀ elems spare, x.1 = .slice elems spare → elems.length + spare.length ≤ 140737488351232) : ∃ a len cap zs, cl = [.slice a len cap] ∧ Row 0 W a len zs ∧ len ≤ cap ∧ cap ≤ 140737488351232 ∧ (a = none → len = 0 ∧ cap = 0) := by
  rcases open_ints Tryz.underlying27 Tryz.underlying5 (by kernel_rfl) h with ⟨hcs, _⟩ | ⟨y, len, cap, zs, hcs, _, hl, hm, hz, rfl, hcell, hwz⟩
  · exact ⟨none, 0, 0, [], hcs, ⟨rfl, (fun n hn => by cases hn), by decide, .inl rfl⟩, by decide, by decide, fun _ => ⟨rfl, rfl⟩⟩
  · simp only [if_pos] at hz
    have hc : cap ≤ 140737488351232 := by
      have := hsz _ _ rfl
      simp only [lits, List.length_map, List.length_take, List.length_drop] at this
      omega
    have hb : Bytes (zs.take len) := fun n hn => u8_bounds (hwz n (List.mem_of_mem_take hn))
    refine ⟨some y, len, cap, zs.take len, hcs, ⟨by rw [List.length_take]; omega, hb, by omega, ?_⟩, hl, hc, (fun h => by cases h)⟩
    rcases Nat.eq_zero_or_pos len with h0 | hpos
    · exact .inl h0
    · obtain ⟨b, off, rfl, hc'⟩ := ints_at hcell (by omega)
      refine .inr ⟨b, off, rfl, Nat.zero_le _, fun j hj => ?_⟩
      rw [hc' j (by omega), List.getD_eq_getElem?_getD, List.getD_eq_getElem?_getD, List.getElem?_take, if_pos hj]
theorem row_arg {H : Type} {enc : TypeId × Value → H} {W : World} {base : Nat} {held : Bool} {fuel : Nat} {a : Option Addr} {len cap : Nat} {x : DataW H × List MemPlace}
    (h : DataW.trod enc Tryz.prog W base (fun _ => true) held fuel 27 (Value.slice a len cap).cells.toList = some x)
    (hsz : (x.1.weights Tryz.prog 27).all (· ≤ reachBytes) = true) : ∃ zs, Row 0 W a len zs ∧ len ≤ cap ∧ cap ≤ 140737488351232 ∧ (a = none → len = 0 ∧ cap = 0) := by
  have h5 : Tryz.prog.bytesOf 5 = 1 := by kernel_rfl
  obtain ⟨a', len', cap', zs, e, h1⟩ := row_of h (fun elems spare hd => by
    rw [hd] at hsz
    simp only [DataW.weights, Tryz.underlying27, List.all_cons, Bool.and_eq_true, decide_eq_true_eq, h5, Nat.mul_one] at hsz
    exact hsz.1)
  simp [Value.cells] at e
  obtain ⟨rfl, rfl, rfl⟩ := e
  exact ⟨zs, h1⟩
theorem weightsAll_mem {H : Type} {P : Program} {e : TypeId} : ∀ {l : List (DataW H)} {d : DataW H}, d ∈ l → ∀ n ∈ d.weights P e, n ∈ DataW.weightsAll P e l
  | x :: l, d, hd, n, hn => by
    unfold DataW.weightsAll
    cases List.mem_cons.1 hd with
    | inl h => subst h; exact List.mem_append_left _ hn
    | inr h => exact List.mem_append_right _ (weightsAll_mem h n hn)
theorem fields45 : ∃ f0 f1, Tryz.prog.underlying 114 = some (.struct #[f0, f1]) ∧ f0.offset = 0 ∧ f1.offset = 1 ∧ f0.type = 22 ∧ f1.type = 27 := ⟨_, _, Tryz.underlying114, rfl, rfl, rfl, rfl⟩
theorem choose_prm {n : Nat} {p : Nat → Prm → Prop} (h : ∀ i, i < n → ∃ q, p i q) : ∃ f : Nat → Prm, ∀ i, i < n → p i (f i) := choose_lt h

theorem prms_arg {H : Type} {enc : TypeId × Value → H} {W : World} {base : Nat} {held : Bool} {fuel : Nat} {a : Option Addr} {n cap : Nat} {x : DataW H × List MemPlace}
    (h : DataW.trod enc Tryz.prog W base (fun _ => true) held fuel 57 (Value.slice a n cap).cells.toList = some x)
    (hsz : (x.1.weights Tryz.prog 57).all (· ≤ reachBytes) = true) : ∃ ps, Prms 0 W a n ps ∧ n ≤ cap ∧ cap ≤ 140737488351232 ∧ (a = none → n = 0 ∧ cap = 0) := by
  have h5 : Tryz.prog.bytesOf 5 = 1 := by kernel_rfl
  have h45 : Tryz.prog.bytesOf 114 = 32 := by kernel_rfl
  obtain ⟨f0, f1, hu, o0, o1, t0, t1⟩ := fields45
  rcases open_slice_pairs Tryz.underlying57 hu (by kernel_rfl) o0 o1 (by rw [t0]; kernel_rfl) (by rw [t1]; kernel_rfl) h with ⟨hcs, _⟩ | ⟨ad, l, c, m, k, V0, V1, D0, D1, P0, P1, hcs, _, hl, hm, hmm, hx0, hx⟩
  · simp [Value.cells] at hcs
    obtain ⟨rfl, rfl, rfl⟩ := hcs
    exact ⟨[], Prms.nil _ _ _, by decide, by decide, fun _ => ⟨rfl, rfl⟩⟩
  · simp [Value.cells] at hcs
    obtain ⟨rfl, rfl, rfl⟩ := hcs
    subst hx0
    simp only [if_pos] at hmm
    subst hmm
    simp only [DataW.weights, Tryz.underlying57, List.all_cons, Bool.and_eq_true, decide_eq_true_eq, h45, List.all_append, List.length_map, List.length_range] at hsz
    obtain ⟨hs1, hs2, _⟩ := hsz
    have hc : m ≤ 140737488351232 := by
      unfold reachBytes at hs1
      omega
    have each : ∀ i, i < n → ∃ q : Prm, One 0 W q ∧ W.cell? (ad.add (i * 2)) = some (.int .u16 q.1) ∧ W.cell? (ad.add (i * 2 + 1)) = some (.slice q.2.1 q.2.2.1 q.2.2.2.1) := by
      intro i hi
      obtain ⟨h1, h2, g0, g1⟩ := hx i (by omega)
      rw [t0] at g0
      rw [t1] at g1
      obtain ⟨n0, e0, _, w0⟩ := DataW.trod_int Tryz.underlying22 g0
      simp at e0
      rw [e0] at h1
      obtain ⟨a', len', cap', zs, e1, hr, hl', hc', hn'⟩ := row_of g1 (fun elems spare hd => by
        have hmem : (elems.length + spare.length) * 1 ∈ DataW.weightsAll Tryz.prog 114 ((List.range n).map fun i => DataW.agg [D0 i, D1 i]) := by
          refine weightsAll_mem (d := DataW.agg [D0 i, D1 i]) (List.mem_map.2 ⟨i, List.mem_range.2 hi, rfl⟩) _ ?_
          simp only [DataW.weights, hu, List.map_cons, List.map_nil, DataW.weightsEach, t0, t1]
          refine List.mem_append_right _ (List.mem_append_left _ ?_)
          simp only at hd
          rw [hd]
          simp only [DataW.weights, Tryz.underlying27, h5]
          exact List.mem_cons_self
        have := List.all_eq_true.1 hs2 _ hmem
        simp only [decide_eq_true_eq, Nat.mul_one] at this
        exact this)
      simp at e1
      rw [e1] at h2
      exact ⟨(n0, a', len', cap', zs), ⟨u16_bounds w0, hr, hl', by simp only [maxLen]; omega, hn'⟩, h1, h2⟩
    obtain ⟨f, hf⟩ := choose_prm each
    refine ⟨(List.range n).map f, ⟨by simp, by omega, fun p hp => ?_, ?_⟩, hl, hc, (fun h => by cases h)⟩
    · obtain ⟨j, hj, rfl⟩ := List.mem_map.1 hp
      exact (hf j (List.mem_range.1 hj)).1
    · rcases Nat.eq_zero_or_pos n with h0 | hpos
      · exact .inl h0
      · obtain ⟨b, off, spot⟩ := ad
        have hspot : spot = none := by simpa [Addr.add] using World.cell?_spot (hf 0 hpos).2.1
        subst hspot
        have hadd : ∀ i : Nat, (⟨b, off, none⟩ : Addr).add i = ⟨b, off + i, none⟩ := fun i => by rw [Go.WideShapes.add_plain]
        refine .inr ⟨b, off, rfl, Nat.zero_le _, fun j p hj => ?_⟩
        have hjn : j < n := by
          rcases Nat.lt_or_ge j n with h | h
          · exact h
          · rw [List.getElem?_eq_none (by simpa using h)] at hj; cases hj
        rw [List.getElem?_map, List.getElem?_range hjn] at hj
        simp only [Option.map_some, Option.some.injEq] at hj
        subst hj
        obtain ⟨_, r0, r1⟩ := hf j hjn
        rw [hadd] at r0 r1
        rw [Nat.add_assoc]
        exact ⟨r0, r1⟩
end Go.Proofs.YtmnndkhdekpecaaGreatDoor.Par
