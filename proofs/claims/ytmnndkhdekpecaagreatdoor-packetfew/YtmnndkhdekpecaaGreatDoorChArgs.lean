/-
  What came in: chunks.
  Conditions: as at each lemma.
-/
import Derived.Test.YtmnndkhdekpecaaGreatDoorCf
import Derived.Test.YtmnndkhdekpecaaGreatDoorParArgs
import Derived.Deep.Slices
namespace Go.Proofs.YtmnndkhdekpecaaGreatDoor.Chu
open Go.ChangeShapes Go.WideShapes Go.ChangeAt Go.RowKit Go.Deep
open Par (hidden Bytes Row Prm Prms cell_lt)
set_option linter.unusedVariables false

theorem u32_bounds {n : Int} (h : (Lit.int .u32 n).wf = true) : 0 ≤ n ∧ n < 4294967296 := by
  simp [Lit.wf, IntKind.min, IntKind.max, IntKind.signed, IntKind.bits] at h
  omega
theorem fieldsC : ∃ fs : Array Field, Tryz.prog.underlying 59 = some (.struct fs) ∧ fs.map (fun f => (f.offset, f.type)) = #[(0, 33), (1, 5), (2, 23), (3, 22), (4, 22), (5, 23), (6, 23), (7, 23), (8, 22), (9, 22), (10, 55), (11, 55), (12, 56), (13, 27), (14, 57)] := ⟨_, Tryz.underlying59, by simp⟩
theorem fieldsG : ∃ f0 f1, Tryz.prog.underlying 106 = some (.struct #[f0, f1]) ∧ f0.offset = 0 ∧ f1.offset = 1 ∧ f0.type = 22 ∧ f1.type = 22 := ⟨_, _, Tryz.underlying106, rfl, rfl, rfl, rfl⟩
theorem field_at {fs : Array Field} {L : Array (Nat × TypeId)} (h : fs.map (fun f => (f.offset, f.type)) = L) {i o : Nat} {t : TypeId} (hi : L[i]? = some (o, t)) : ∃ f, fs[i]? = some f ∧ f.offset = o ∧ f.type = t := by
  rw [← h, Array.getElem?_map] at hi
  cases hf : fs[i]? with
  | none => rw [hf] at hi; cases hi
  | some f =>
    rw [hf] at hi
    simp at hi
    exact ⟨f, rfl, hi.1, hi.2⟩
set_option maxRecDepth 20000 in
theorem list15 {α : Type} {l : List α} (h : l.length = 15) : ∃ v0 v1 v2 v3 v4 v5 v6 v7 v8 v9 v10 v11 v12 v13 v14, l = [v0, v1, v2, v3, v4, v5, v6, v7, v8, v9, v10, v11, v12, v13, v14] := by
  match l, h with
  | [v0, v1, v2, v3, v4, v5, v6, v7, v8, v9, v10, v11, v12, v13, v14], _ => exact ⟨v0, v1, v2, v3, v4, v5, v6, v7, v8, v9, v10, v11, v12, v13, v14, rfl⟩
theorem choose_ck {n : Nat} {p : Nat → Ck → Prop} (h : ∀ i, i < n → ∃ q, p i q) : ∃ f : Nat → Ck, ∀ i, i < n → p i (f i) := by
  refine ⟨fun i => if h' : i < n then (h i h').choose else zck 0, fun i hi => ?_⟩
  simp only [hi, dite_true]
  exact (h i hi).choose_spec
section
variable {H : Type} {enc : TypeId × Value → H} {W : World} {base : Nat} {held : Bool} {fuel : Nat} {cl : List Value} {x : DataW H × List MemPlace}
theorem fours_of (h : DataW.trod enc Tryz.prog W base (fun _ => true) held fuel 56 cl = some x) (hsz : (x.1.weights Tryz.prog 56).all (· ≤ reachBytes) = true) :
    ∃ a n cap ds, cl = [.slice a n cap] ∧ Fours 0 W a n ds := by
  have hb : Tryz.prog.bytesOf 23 = 4 := by kernel_rfl
  rcases open_ints Tryz.underlying56 Tryz.underlying23 (by kernel_rfl) h with ⟨hcs, _⟩ | ⟨y, len, cap, zs, hcs, _, hl, hm, hz, rfl, hcell, hwz⟩
  · exact ⟨none, 0, 0, [], hcs, Fours.nil _ _ _⟩
  · simp only [if_pos] at hz
    simp only [DataW.weights, Tryz.underlying56, List.all_cons, Bool.and_eq_true, decide_eq_true_eq, hb] at hsz
    have hc : len ≤ 140737488355328 := by
      have := hsz.1
      simp only [lits, List.length_map, List.length_take, List.length_drop] at this
      unfold reachBytes at this
      omega
    refine ⟨some y, len, cap, zs.take len, hcs, by rw [List.length_take]; omega, hc, fun n hn => u32_bounds (hwz n (List.mem_of_mem_take hn)), ?_⟩
    rcases Nat.eq_zero_or_pos len with h0 | hpos
    · subst h0
      exact .inl (by simp [dcs])
    · obtain ⟨b, off, rfl, hc'⟩ := ints_at hcell (by omega)
      refine .inr ⟨b, off, rfl, Nat.zero_le _, fun j u hj => ?_⟩
      simp only [dcs, List.getElem?_map, List.getElem?_take] at hj
      split at hj
      · rename_i hjl
        rw [hc' j (by omega), List.getD_eq_getElem?_getD]
        cases hzj : zs[j]? with
        | none => rw [hzj] at hj; cases hj
        | some z => rw [hzj] at hj; simpa using hj
      · cases hj
theorem gaps_of (h : DataW.trod enc Tryz.prog W base (fun _ => true) held fuel 55 cl = some x) (hsz : (x.1.weights Tryz.prog 55).all (· ≤ reachBytes) = true) :
    ∃ a n cap gs, cl = [.slice a n cap] ∧ Gaps 0 W a n gs := by
  have hb : Tryz.prog.bytesOf 106 = 4 := by kernel_rfl
  obtain ⟨f0, f1, hu, o0, o1, t0, t1⟩ := fieldsG
  rcases open_slice_pairs Tryz.underlying55 hu (by kernel_rfl) o0 o1 (by rw [t0]; kernel_rfl) (by rw [t1]; kernel_rfl) h with ⟨hcs, _⟩ | ⟨ad, l, c, m, k, V0, V1, D0, D1, P0, P1, hcs, _, hl, hm, hmm, hx0, hx⟩
  · exact ⟨none, 0, 0, [], hcs, Gaps.nil _ _ _⟩
  · subst hx0
    simp only [if_pos] at hmm
    subst hmm
    simp only [DataW.weights, Tryz.underlying55, List.all_cons, Bool.and_eq_true, decide_eq_true_eq, hb, List.length_map, List.length_range] at hsz
    have hc : l ≤ 140737488355328 := by
      have := hsz.1
      unfold reachBytes at this
      omega
    have each : ∀ i, i < l → ∃ q : Int × Int, ((0 ≤ q.1 ∧ q.1 < 65536) ∧ (0 ≤ q.2 ∧ q.2 < 65536)) ∧ W.cell? (ad.add (i * 2)) = some (.int .u16 q.1) ∧ W.cell? (ad.add (i * 2 + 1)) = some (.int .u16 q.2) := by
      intro i hi
      obtain ⟨h1, h2, g0, g1⟩ := hx i (by omega)
      rw [t0] at g0
      rw [t1] at g1
      obtain ⟨n0, e0, _, w0⟩ := DataW.trod_int Tryz.underlying22 g0
      obtain ⟨n1, e1, _, w1⟩ := DataW.trod_int Tryz.underlying22 g1
      simp at e0 e1
      rw [e0] at h1
      rw [e1] at h2
      exact ⟨(n0, n1), ⟨Par.u16_bounds w0, Par.u16_bounds w1⟩, h1, h2⟩
    obtain ⟨f, hf⟩ := choose_lt each
    refine ⟨some ad, l, _, (List.range l).map f, hcs, by simp, hc, fun g hg => ?_, ?_⟩
    · obtain ⟨j, hj, rfl⟩ := List.mem_map.1 hg
      exact (hf j (List.mem_range.1 hj)).1
    · rcases Nat.eq_zero_or_pos l with h0 | hpos
      · subst h0
        exact .inl rfl
      · obtain ⟨b, off, spot⟩ := ad
        have hspot : spot = none := by simpa [Addr.add] using World.cell?_spot (hf 0 hpos).2.1
        subst hspot
        have hadd : ∀ i : Nat, (⟨b, off, none⟩ : Addr).add i = ⟨b, off + i, none⟩ := fun i => by rw [Go.WideShapes.add_plain]
        refine .inr ⟨b, off, rfl, Nat.zero_le _, fun j u hj => ?_⟩
        have hjl : j < l * 2 := by
          have := (List.getElem?_eq_some_iff.1 hj).1
          rw [gcs_len] at this
          simpa using this
        have hd : j / 2 < l := by omega
        obtain ⟨_, r0, r1⟩ := hf (j / 2) hd
        rw [hadd] at r0 r1
        obtain ⟨k0, k1⟩ := gcs_get ((List.range l).map f) (j / 2) (f (j / 2)) (by rw [List.getElem?_map, List.getElem?_range hd]; rfl)
        rcases Nat.mod_two_eq_zero_or_one j with hj0 | hj1
        · have e : j / 2 * 2 = j := by omega
          rw [e] at k0 r0
          rw [k0] at hj
          cases hj
          exact r0
        · have e : j / 2 * 2 + 1 = j := by omega
          rw [e] at k1 r1
          rw [k1] at hj
          cases hj
          exact r1
theorem prms_of (h : DataW.trod enc Tryz.prog W base (fun _ => true) held fuel 57 cl = some x) (hsz : (x.1.weights Tryz.prog 57).all (· ≤ reachBytes) = true) :
    ∃ a n cap ps, cl = [.slice a n cap] ∧ Prms 0 W a n ps := by
  obtain ⟨a, n, cap, rfl⟩ : ∃ a n cap, cl = [.slice a n cap] := by
    rcases open_slice Tryz.underlying57 h with ⟨rfl, _⟩ | ⟨a, l, c, _, _, _, _, rfl, _⟩
    · exact ⟨none, 0, 0, rfl⟩
    · exact ⟨some a, l, c, rfl⟩
  obtain ⟨ps, hp, _⟩ := Par.prms_arg (a := a) (n := n) (cap := cap) h hsz
  exact ⟨a, n, cap, ps, rfl, hp⟩
theorem bytes_of (h : DataW.trod enc Tryz.prog W base (fun _ => true) held fuel 27 cl = some x) (hsz : (x.1.weights Tryz.prog 27).all (· ≤ reachBytes) = true) :
    ∃ a n cap zs, cl = [.slice a n cap] ∧ Row 0 W a n zs ∧ (a = none → n = 0 ∧ cap = 0) ∧ n ≤ 140737488351232 := by
  obtain ⟨a, n, cap, rfl⟩ : ∃ a n cap, cl = [.slice a n cap] := by
    rcases open_slice Tryz.underlying27 h with ⟨rfl, _⟩ | ⟨a, l, c, _, _, _, _, rfl, _⟩
    · exact ⟨none, 0, 0, rfl⟩
    · exact ⟨some a, l, c, rfl⟩
  obtain ⟨zs, hr, hc1, hc2, hn⟩ := Par.row_arg (a := a) (len := n) (cap := cap) h hsz
  exact ⟨a, n, cap, zs, rfl, hr, hn, Nat.le_trans hc1 hc2⟩

theorem chunk_of (h : DataW.trod enc Tryz.prog W base (fun _ => true) held fuel 59 cl = some x) (hsz : (x.1.weights Tryz.prog 59).all (· ≤ reachBytes) = true) :
    ∃ c : Ck, cl = (cc c).toList ∧ Chk 0 W c ∧ c.bl ≤ 140737488351232 := by
  obtain ⟨fs, hu, hfs⟩ := fieldsC
  obtain ⟨xs, n, hf, hx, hcl, hxl, hfield⟩ := DataW.trod_struct hu h
  have hc15 : Tryz.prog.cellsOf 59 = 15 := by kernel_rfl
  rw [hc15] at hcl
  have hfl : fs.size = 15 := by
    have := congrArg Array.size hfs
    simpa using this
  rw [hfl] at hxl
  subst hx
  simp only [DataW.weights, hu] at hsz
  have htypes : fs.toList.map (fun f => f.type) = [33, 5, 23, 22, 22, 23, 23, 23, 22, 22, 55, 55, 56, 27, 57] := by
    have := congrArg (fun l => l.toList.map (·.2)) hfs
    simpa [Function.comp_def] using this
  rw [htypes] at hsz
  have wt : ∀ (i : Nat) (t : TypeId) (y : DataW H × List MemPlace), ([33, 5, 23, 22, 22, 23, 23, 23, 22, 22, 55, 55, 56, 27, 57] : List TypeId)[i]? = some t → xs[i]? = some y → (y.1.weights Tryz.prog t).all (· ≤ reachBytes) = true := by
    intro i t y ht hy
    refine List.all_eq_true.2 fun m hm => List.all_eq_true.1 hsz m (DataW.weights_mem_each (j := i) ht (by rw [List.getElem?_map, hy]; rfl) m hm)
  obtain ⟨v0, v1, v2, v3, v4, v5, v6, v7, v8, v9, v10, v11, v12, v13, v14, rfl⟩ := list15 hcl
  obtain ⟨y0, y1, y2, y3, y4, y5, y6, y7, y8, y9, y10, y11, y12, y13, y14, rfl⟩ := list15 hxl
  obtain ⟨q0, k0, o0, t0⟩ := field_at hfs (i := 0) (o := 0) (t := 33) rfl
  have g0 := hfield 0 q0 k0
  rw [o0, t0, show Tryz.prog.cellsOf 33 = 1 by kernel_rfl] at g0
  simp only [List.drop_zero, List.take_succ_cons, List.take_zero, List.getElem?_cons_zero] at g0
  obtain ⟨n0, e0, _, w0⟩ := DataW.trod_int Tryz.underlying33 g0
  obtain rfl : v0 = .int .u8 n0 := by simpa using e0
  obtain ⟨q1, k1, o1, t1⟩ := field_at hfs (i := 1) (o := 1) (t := 5) rfl
  have g1 := hfield 1 q1 k1
  rw [o1, t1, show Tryz.prog.cellsOf 5 = 1 by kernel_rfl] at g1
  simp only [List.drop_zero, List.drop_succ_cons, List.take_succ_cons, List.take_zero, List.getElem?_cons_zero, List.getElem?_cons_succ] at g1
  obtain ⟨n1, e1, _, w1⟩ := DataW.trod_int Tryz.underlying5 g1
  obtain rfl : v1 = .int .u8 n1 := by simpa using e1
  obtain ⟨q2, k2, o2, t2⟩ := field_at hfs (i := 2) (o := 2) (t := 23) rfl
  have g2 := hfield 2 q2 k2
  rw [o2, t2, show Tryz.prog.cellsOf 23 = 1 by kernel_rfl] at g2
  simp only [List.drop_zero, List.drop_succ_cons, List.take_succ_cons, List.take_zero, List.getElem?_cons_zero, List.getElem?_cons_succ] at g2
  obtain ⟨n2, e2, _, w2⟩ := DataW.trod_int Tryz.underlying23 g2
  obtain rfl : v2 = .int .u32 n2 := by simpa using e2
  obtain ⟨q3, k3, o3, t3⟩ := field_at hfs (i := 3) (o := 3) (t := 22) rfl
  have g3 := hfield 3 q3 k3
  rw [o3, t3, show Tryz.prog.cellsOf 22 = 1 by kernel_rfl] at g3
  simp only [List.drop_zero, List.drop_succ_cons, List.take_succ_cons, List.take_zero, List.getElem?_cons_zero, List.getElem?_cons_succ] at g3
  obtain ⟨n3, e3, _, w3⟩ := DataW.trod_int Tryz.underlying22 g3
  obtain rfl : v3 = .int .u16 n3 := by simpa using e3
  obtain ⟨q4, k4, o4, t4⟩ := field_at hfs (i := 4) (o := 4) (t := 22) rfl
  have g4 := hfield 4 q4 k4
  rw [o4, t4, show Tryz.prog.cellsOf 22 = 1 by kernel_rfl] at g4
  simp only [List.drop_zero, List.drop_succ_cons, List.take_succ_cons, List.take_zero, List.getElem?_cons_zero, List.getElem?_cons_succ] at g4
  obtain ⟨n4, e4, _, w4⟩ := DataW.trod_int Tryz.underlying22 g4
  obtain rfl : v4 = .int .u16 n4 := by simpa using e4
  obtain ⟨q5, k5, o5, t5⟩ := field_at hfs (i := 5) (o := 5) (t := 23) rfl
  have g5 := hfield 5 q5 k5
  rw [o5, t5, show Tryz.prog.cellsOf 23 = 1 by kernel_rfl] at g5
  simp only [List.drop_zero, List.drop_succ_cons, List.take_succ_cons, List.take_zero, List.getElem?_cons_zero, List.getElem?_cons_succ] at g5
  obtain ⟨n5, e5, _, w5⟩ := DataW.trod_int Tryz.underlying23 g5
  obtain rfl : v5 = .int .u32 n5 := by simpa using e5
  obtain ⟨q6, k6, o6, t6⟩ := field_at hfs (i := 6) (o := 6) (t := 23) rfl
  have g6 := hfield 6 q6 k6
  rw [o6, t6, show Tryz.prog.cellsOf 23 = 1 by kernel_rfl] at g6
  simp only [List.drop_zero, List.drop_succ_cons, List.take_succ_cons, List.take_zero, List.getElem?_cons_zero, List.getElem?_cons_succ] at g6
  obtain ⟨n6, e6, _, w6⟩ := DataW.trod_int Tryz.underlying23 g6
  obtain rfl : v6 = .int .u32 n6 := by simpa using e6
  obtain ⟨q7, k7, o7, t7⟩ := field_at hfs (i := 7) (o := 7) (t := 23) rfl
  have g7 := hfield 7 q7 k7
  rw [o7, t7, show Tryz.prog.cellsOf 23 = 1 by kernel_rfl] at g7
  simp only [List.drop_zero, List.drop_succ_cons, List.take_succ_cons, List.take_zero, List.getElem?_cons_zero, List.getElem?_cons_succ] at g7
  obtain ⟨n7, e7, _, w7⟩ := DataW.trod_int Tryz.underlying23 g7
  obtain rfl : v7 = .int .u32 n7 := by simpa using e7
  obtain ⟨q8, k8, o8, t8⟩ := field_at hfs (i := 8) (o := 8) (t := 22) rfl
  have g8 := hfield 8 q8 k8
  rw [o8, t8, show Tryz.prog.cellsOf 22 = 1 by kernel_rfl] at g8
  simp only [List.drop_zero, List.drop_succ_cons, List.take_succ_cons, List.take_zero, List.getElem?_cons_zero, List.getElem?_cons_succ] at g8
  obtain ⟨n8, e8, _, w8⟩ := DataW.trod_int Tryz.underlying22 g8
  obtain rfl : v8 = .int .u16 n8 := by simpa using e8
  obtain ⟨q9, k9, o9, t9⟩ := field_at hfs (i := 9) (o := 9) (t := 22) rfl
  have g9 := hfield 9 q9 k9
  rw [o9, t9, show Tryz.prog.cellsOf 22 = 1 by kernel_rfl] at g9
  simp only [List.drop_zero, List.drop_succ_cons, List.take_succ_cons, List.take_zero, List.getElem?_cons_zero, List.getElem?_cons_succ] at g9
  obtain ⟨n9, e9, _, w9⟩ := DataW.trod_int Tryz.underlying22 g9
  obtain rfl : v9 = .int .u16 n9 := by simpa using e9
  obtain ⟨q10, k10, o10, t10⟩ := field_at hfs (i := 10) (o := 10) (t := 55) rfl
  have g10 := hfield 10 q10 k10
  rw [o10, t10, show Tryz.prog.cellsOf 55 = 1 by kernel_rfl] at g10
  simp only [List.drop_zero, List.drop_succ_cons, List.take_succ_cons, List.take_zero, List.getElem?_cons_zero, List.getElem?_cons_succ] at g10
  obtain ⟨a10, l10, c10, s10, e10, h10⟩ := gaps_of g10 (wt 10 55 y10 rfl rfl)
  obtain rfl : v10 = .slice a10 l10 c10 := by simpa using e10
  obtain ⟨q11, k11, o11, t11⟩ := field_at hfs (i := 11) (o := 11) (t := 55) rfl
  have g11 := hfield 11 q11 k11
  rw [o11, t11, show Tryz.prog.cellsOf 55 = 1 by kernel_rfl] at g11
  simp only [List.drop_zero, List.drop_succ_cons, List.take_succ_cons, List.take_zero, List.getElem?_cons_zero, List.getElem?_cons_succ] at g11
  obtain ⟨a11, l11, c11, s11, e11, h11⟩ := gaps_of g11 (wt 11 55 y11 rfl rfl)
  obtain rfl : v11 = .slice a11 l11 c11 := by simpa using e11
  obtain ⟨q12, k12, o12, t12⟩ := field_at hfs (i := 12) (o := 12) (t := 56) rfl
  have g12 := hfield 12 q12 k12
  rw [o12, t12, show Tryz.prog.cellsOf 56 = 1 by kernel_rfl] at g12
  simp only [List.drop_zero, List.drop_succ_cons, List.take_succ_cons, List.take_zero, List.getElem?_cons_zero, List.getElem?_cons_succ] at g12
  obtain ⟨a12, l12, c12, s12, e12, h12⟩ := fours_of g12 (wt 12 56 y12 rfl rfl)
  obtain rfl : v12 = .slice a12 l12 c12 := by simpa using e12
  obtain ⟨q13, k13, o13, t13⟩ := field_at hfs (i := 13) (o := 13) (t := 27) rfl
  have g13 := hfield 13 q13 k13
  rw [o13, t13, show Tryz.prog.cellsOf 27 = 1 by kernel_rfl] at g13
  simp only [List.drop_zero, List.drop_succ_cons, List.take_succ_cons, List.take_zero, List.getElem?_cons_zero, List.getElem?_cons_succ] at g13
  obtain ⟨a13, l13, c13, s13, e13, h13⟩ := bytes_of g13 (wt 13 27 y13 rfl rfl)
  obtain rfl : v13 = .slice a13 l13 c13 := by simpa using e13
  obtain ⟨q14, k14, o14, t14⟩ := field_at hfs (i := 14) (o := 14) (t := 57) rfl
  have g14 := hfield 14 q14 k14
  rw [o14, t14, show Tryz.prog.cellsOf 57 = 1 by kernel_rfl] at g14
  simp only [List.drop_zero, List.drop_succ_cons, List.take_succ_cons, List.take_zero, List.getElem?_cons_zero, List.getElem?_cons_succ] at g14
  obtain ⟨a14, l14, c14, s14, e14, h14⟩ := prms_of g14 (wt 14 57 y14 rfl rfl)
  obtain rfl : v14 = .slice a14 l14 c14 := by simpa using e14
  exact ⟨⟨n0, n1, n2, n3, n4, n5, n6, n7, n8, n9, a10, l10, c10, s10, a11, l11, c11, s11, a12, l12, c12, s12, a13, l13, c13, s13, a14, l14, c14, s14⟩, rfl, ⟨⟨Par.u8_bounds w0, Par.u8_bounds w1, u32_bounds w2, Par.u16_bounds w3, Par.u16_bounds w4, u32_bounds w5, u32_bounds w6, u32_bounds w7, Par.u16_bounds w8, Par.u16_bounds w9⟩, ⟨h10, h11, h12, h13.1, h13.2.1, h14⟩⟩, h13.2.2⟩
end
set_option maxRecDepth 20000 in
theorem chunk_arg {H : Type} {enc : TypeId × Value → H} {W : World} {base : Nat} {held : Bool} {fuel : Nat} {v : Value} {x : DataW H × List MemPlace} {b0 : Nat} {r : Reach}
    (hval : Value.okWide Tryz.prog W r b0 59 v) (h : DataW.trod enc Tryz.prog W base (fun _ => true) held fuel 59 v.cells.toList = some x)
    (hsz : (x.1.weights Tryz.prog 59).all (· ≤ reachBytes) = true) : ∃ c : Ck, v = cv c ∧ Chk 0 W c := by
  obtain ⟨c, hc, hk, _⟩ := chunk_of h hsz
  refine ⟨c, ?_, hk⟩
  obtain ⟨cs, rfl, _⟩ := okWide_struct Tryz.underlying59 hval
  have e : cs.toList = (cc c).toList := hc
  rw [Array.toList_inj] at e
  rw [e]
  rfl
set_option maxRecDepth 20000 in
theorem chunks_arg' {H : Type} {enc : TypeId × Value → H} {W : World} {base : Nat} {held : Bool} {fuel : Nat} {a : Option Addr} {n cap : Nat} {x : DataW H × List MemPlace}
    (h : DataW.trod enc Tryz.prog W base (fun _ => true) held fuel 24 (Value.slice a n cap).cells.toList = some x)
    (hsz : (x.1.weights Tryz.prog 24).all (· ≤ reachBytes) = true) : ∃ l, Cks 0 W a n l ∧ ∀ c ∈ l, c.bl ≤ 140737488351232 := by
  have hb : Tryz.prog.bytesOf 59 = 152 := by kernel_rfl
  have hc15 : Tryz.prog.cellsOf 59 = 15 := by kernel_rfl
  rcases open_slice Tryz.underlying24 h with ⟨hcs, _⟩ | ⟨ad, l, c, m, k, D, Pl, hcs, _, hl, hm, hmm, rfl, hx⟩
  · simp [Value.cells] at hcs
    obtain ⟨rfl, rfl, rfl⟩ := hcs
    exact ⟨[], Cks.nil _ _ _, fun c hc => by cases hc⟩
  · simp [Value.cells] at hcs
    obtain ⟨rfl, rfl, rfl⟩ := hcs
    simp only [if_pos] at hmm
    subst hmm
    simp only [DataW.weights, Tryz.underlying24, List.all_cons, Bool.and_eq_true, decide_eq_true_eq, hb, List.all_append, List.length_map, List.length_range] at hsz
    obtain ⟨hs1, hs2, _⟩ := hsz
    have hcn : n ≤ 1000000000000 := by
      unfold reachBytes at hs1
      omega
    have each : ∀ i, i < n → ∃ q : Ck, (Chk 0 W q ∧ q.bl ≤ 140737488351232) ∧ ∀ j u, (cc q).toList[j]? = some u → W.cell? (ad.add (i * 15 + j)) = some u := by
      intro i hi
      obtain ⟨cs', h1, h2⟩ := hx i (by omega)
      rw [hc15] at h1
      obtain ⟨_, hlen, hcell⟩ := World.cells?_some h1
      obtain ⟨q, rfl, hq⟩ := chunk_of h2 (List.all_eq_true.2 fun m hm => List.all_eq_true.1 hs2 m (Par.weightsAll_mem (d := D i) (List.mem_map.2 ⟨i, List.mem_range.2 hi, rfl⟩) m hm))
      refine ⟨q, hq, fun j u hj => ?_⟩
      have hjl := (List.getElem?_eq_some_iff.1 hj).1
      have e1 := hcell j (by rw [← hlen]; exact hjl)
      rw [add_add] at e1
      rw [e1]
      exact hj
    obtain ⟨f, hf⟩ := choose_ck each
    refine ⟨(List.range n).map f, ⟨by simp, hcn, fun q hq => ?_, ?_⟩, fun q hq => ?_⟩
    rotate_left
    rotate_left
    · obtain ⟨j, hj, rfl⟩ := List.mem_map.1 hq
      exact (hf j (List.mem_range.1 hj)).1.2
    · obtain ⟨j, hj, rfl⟩ := List.mem_map.1 hq
      exact (hf j (List.mem_range.1 hj)).1.1
    · rcases Nat.eq_zero_or_pos n with h0 | hpos
      · subst h0
        exact .inl rfl
      · obtain ⟨b, off, spot⟩ := ad
        have hspot : spot = none := by simpa [Addr.add] using World.cell?_spot ((hf 0 hpos).2 0 _ (cc_0 _))
        subst hspot
        have hadd : ∀ i : Nat, (⟨b, off, none⟩ : Addr).add i = ⟨b, off + i, none⟩ := fun i => by rw [Go.WideShapes.add_plain]
        refine .inr ⟨b, off, rfl, Nat.zero_le _, fun j u hj => ?_⟩
        have hjl : j < n * 15 := by
          have := (List.getElem?_eq_some_iff.1 hj).1
          rw [ccs_len] at this
          simpa using this
        have hd : j / 15 < n := by omega
        have hm15 : j % 15 < 15 := Nat.mod_lt _ (by omega)
        obtain ⟨v, hv⟩ : ∃ v, (cc (f (j / 15))).toList[j % 15]? = some v := ⟨_, List.getElem?_eq_getElem (by simpa [size_cc] using hm15)⟩
        have r := (hf (j / 15) hd).2 _ v hv
        have g := ccs_get ((List.range n).map f) (j / 15) (f (j / 15)) (by rw [List.getElem?_map, List.getElem?_range hd]; rfl) _ v hv
        have e : j / 15 * 15 + j % 15 = j := by omega
        rw [e] at r g
        rw [hadd] at r
        rw [g] at hj
        cases hj
        exact r
theorem chunks_arg {H : Type} {enc : TypeId × Value → H} {W : World} {base : Nat} {held : Bool} {fuel : Nat} {a : Option Addr} {n cap : Nat} {x : DataW H × List MemPlace}
    (h : DataW.trod enc Tryz.prog W base (fun _ => true) held fuel 24 (Value.slice a n cap).cells.toList = some x)
    (hsz : (x.1.weights Tryz.prog 24).all (· ≤ reachBytes) = true) : ∃ l, Cks 0 W a n l := (chunks_arg' h hsz).imp fun _ h => h.1
end Go.Proofs.YtmnndkhdekpecaaGreatDoor.Chu
