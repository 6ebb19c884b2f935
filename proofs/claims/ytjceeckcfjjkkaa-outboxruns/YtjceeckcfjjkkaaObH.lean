/-
  A box is made; a part is put.
  Conditions: the box lies in memory, or is nil, or was made by no call.
-/
import Derived.Test.YtjceeckcfjjkkaaObG
namespace Go.Proofs.Ytjceeckcfjjkkaa.Ob
open Go.ChangeShapes Go.WideShapes Go.ChangeAt Go.RowKit
open Ba (hidden Has cell_lt heap_lt)
set_option linter.unusedVariables false

theorem info_kp : (Try.prog.info? 108).map (fun i => (i.zero, i.size, i.bytes)) = some (some (.agg zO), 14, 104) := by kernel_rfl
theorem info_out : (Try.prog.info? 59).map (fun i => (i.zero, i.size, i.bytes)) = some (some (.agg zO), 14, 104) := by kernel_rfl
theorem info_inth : (Try.prog.info? 3).map (fun i => (i.zero, i.size, i.bytes)) = some (some (.int .i64 0), 1, 8) := by kernel_rfl
theorem new_no (fi n : Int) (h : ¬ (1 ≤ n ∧ n ≤ 8)) (w : World) : Calls Try.prog 9 #[.int .u32 fi, .int .i64 n] w fun e w' => e = .returned (.tuple #[.pointer none, .int .i64 1]) ∧ w = w' := by
  by_cases h1 : n < 1
  · clear h
    go_enter Try.func9, Try.ntmps9
    go_wp2
    go_ret2
    exact ⟨rfl, rfl⟩
  · have h2 : 8 < n := by omega
    clear h
    go_enter Try.func9, Try.ntmps9
    go_wp2
    go_ret2
    exact ⟨rfl, rfl⟩
def newS (fi n : Int) : St := ⟨n.toNat, (fi - 1) % 4294967296, []⟩
theorem Good.new {fi n : Int} (hf : 0 ≤ fi ∧ fi < 4294967296) (h : 1 ≤ n ∧ n ≤ 8) : Good 0 (newS fi n) :=
  ⟨by decide, by simp only [newS]; omega, by simp only [newS]; omega, by simp only [newS]; omega, by simp only [newS]; omega, by simp [newS], (fun x hx => by cases hx), (fun i x hx => by simp [newS] at hx)⟩
theorem new (D : Nat → Prop) (fi n : Int) (hf : 0 ≤ fi ∧ fi < 4294967296) (h1 : 1 ≤ n) (h2 : n ≤ 8) (w : World) :
    Calls Try.prog 9 #[.int .u32 fi, .int .i64 n] w fun e w' => ∃ t, e = .returned (.tuple #[.pointer (some ⟨t, 0, none⟩), .int .i64 0]) ∧ (∃ F, Cd D w' t (newS fi n) F ∧ ∀ k, F k → w.heap.size ≤ k) ∧ Below w.heap.size w w' := by
  obtain ⟨mk, k1, k2, k3, k4⟩ := make_wide (P := Try.prog) Try.underlying78 info_inth n.toNat (by omega) (by omega)
  have hn : ((n.toNat : Nat) : Int) = n := Int.toNat_of_nonneg (by omega)
  rw [hn] at k1
  have H2 := hidden k2
  have H3 := hidden k3
  have H4 := hidden k4
  have HF := hidden hf
  clear k2 k3 k4 hn hf
  go_enter Try.func9, Try.ntmps9
  go_wp2
  go_ret2
  have hl := H2.out w
  have hs := H4.out w
  have hN := Has.new (mk w) #[.slice none 0 0, .int .u32 fi, .slice (some ⟨w.heap.size, 0, none⟩) n.toNat n.toNat, .int .i64 0] 80
  have hB : Below (mk w).heap.size (mk w) ((mk w).alloc (.cells #[.slice none 0 0, .int .u32 fi, .slice (some ⟨w.heap.size, 0, none⟩) n.toNat n.toNat, .int .i64 0] 80)) := (Below.refl _ _).alloc (Nat.le_refl _) _
  have hnx : nextS (newS fi n) = fi := by have := HF.out; simp only [nextS, newS, List.length_nil]; omega
  refine ⟨_, rfl, ⟨FC (mk w).heap.size w.heap.size (.slice none 0 0), ⟨w.heap.size, .slice none 0 0, [], ⟨by rw [hnx]; exact hN, ⟨_, hl.later hB, fun i hi => ?_⟩, Rw.nil, rfl, (fun p hp => by cases hp)⟩, fun k => Iff.rfl⟩, fun k hk => ?_⟩, (H3.out w).trans (hB.mono (by omega))⟩
  · rw [made_at _ (by simp only [newS] at hi; omega)]
    show some (_[i % 1]!) = _
    rw [Nat.mod_one]
    rfl
  · rcases hk with rfl | rfl | hk
    · omega
    · omega
    · cases hk
/-- worlds while a chunk is appended -/
structure PuA (W1 : World) (b o : Nat) (cs : Array Value) (v : Value) (ps : List CV) (p : CV) (k : Nat) (x : Value) (w' : World) : Prop where
  h0 : k = 0 → w' = W1.drew
  h1 : k = 1 → w' = W1.drew.alloc (.cells (cc p).toArray 108)
  h2 : k = 2 → Rw 108 w' x (ps ++ [p]) ∧ Mod (fun k => v.ownBlock = some k) (W1.drew.alloc (.cells (cc p).toArray 108)) w' ∧ ∀ k, x.ownBlock = some k → v.ownBlock = some k ∨ W1.heap.size ≤ k
  h3 : k = 3 → Rw 108 w' x (ps ++ [p]) ∧ Has w' b (cs.setIfInBounds o x) 80 ∧ Mod (fun k => k = b ∨ v.ownBlock = some k) W1 w' ∧ ∀ k, x.ownBlock = some k → v.ownBlock = some k ∨ W1.heap.size ≤ k
section
variable {W1 w' : World} {b o k : Nat} {cs : Array Value} {v x : Value} {ps : List CV} {p : CV}
theorem PuA.cell (h : PuA W1 b o cs v ps p k x w') (hc : Has W1 b cs 80) (hv : cs[o]? = some v) (hk : k ≤ 1) : w'.cell? ⟨b, o, none⟩ = some v := by
  rcases (show k = 0 ∨ k = 1 by omega) with e1 | e1
  · rw [h.h0 e1]; exact hc.cell o hv
  · rw [h.h1 e1]; exact (hc.later ((Below.refl _ W1).drew.alloc (Nat.le_refl _) _)).cell o hv
theorem PuA.two (h : PuA W1 b o cs v ps p 1 x w') (hr : Rw 108 W1 v ps) (hl : ps.length ≤ 1073741824) (h1 : p.v.oneCell' = true) (ty : TypeId) :
    ∃ v' w2, (Builtin.append_ #[77, 77] ty #[v, .slice (some ⟨W1.heap.size, 0, none⟩) 1 1]).run Try.prog w' = .ok v' w2 ∧ PuA W1 b o cs v ps p (1 + 1) v' w2 := by
  have hw := h.h1 rfl
  subst hw
  have hB : Below W1.heap.size W1 (W1.drew.alloc (.cells (cc p).toArray 108)) := (Below.refl _ W1).drew.alloc (Nat.le_refl _) _
  have hNw : Has (W1.drew.alloc (.cells (cc p).toArray 108)) W1.heap.size (cc p).toArray 108 := Has.new W1.drew _ _
  have hr' := hr.stay (F := fun k => W1.heap.size ≤ k) (Mod.of_below hB) (fun k hk hf => by obtain ⟨cur, hh⟩ := hr.obj hk; have := hh.lt; omega)
  obtain ⟨v', w2, hrun, g1, g2, g3⟩ := app_chunk Try.underlying77 info_kp rfl (by decide) hr' hl h1 hNw ty
  exact ⟨v', w2, hrun, fun e => absurd e (by decide), fun e => absurd e (by decide), fun _ => ⟨g1, g2, fun k hk => (g3 k hk).imp id (fun h => by simp at h; omega)⟩, fun e => absurd e (by decide)⟩
theorem PuA.three (h : PuA W1 b o cs v ps p 2 x w') (hc : Has W1 b cs 80) (hv : cs[o]? = some v) (hr : Rw 108 W1 v ps) :
    (Instr.storeAt 77 (.pointer (some ⟨b, o, none⟩)) x).run Try.prog w' = .ok () (w'.setCell ⟨b, o, none⟩ x) ∧ PuA W1 b o cs v ps p (2 + 1) x (w'.setCell ⟨b, o, none⟩ x) := by
  obtain ⟨g1, g2, g3⟩ := h.h2 rfl
  have hB : Below W1.heap.size W1 (W1.drew.alloc (.cells (cc p).toArray 108)) := (Below.refl _ W1).drew.alloc (Nat.le_refl _) _
  have hne : ¬ v.ownBlock = some b := fun e => by obtain ⟨cur, hh⟩ := hr.obj e; exact hh.ne hc (by decide) rfl
  have hc1 : Has w' b cs 80 := g2.has (hc.later hB) hne
  have c4 := hc1.cell o hv
  have f4 := hc1.frozen o
  obtain ⟨a, cap, hx, _⟩ := g1.slice
  refine ⟨by rw [hx]; simp [go_sem, c4, f4], fun e => absurd e (by decide), fun e => absurd e (by decide), fun e => absurd e (by decide), fun _ => ⟨?_, hc1.set o x, ?_, g3⟩⟩
  · refine g1.stay (F := fun k => k = b) (Mod.setCell (F := fun k => k = b) w' (p := ⟨b, o, none⟩) rfl x) (fun k hk e => ?_)
    subst e
    obtain ⟨cur, hh⟩ := g1.obj hk
    exact hh.ne hc1 (by decide) rfl
  · exact ((Mod.of_below hB).trans g2 (fun k hk => .inl (.inr hk))).trans (Mod.setCell (F := fun k => k = b ∨ v.ownBlock = some k) w' (p := ⟨b, o, none⟩) (.inl rfl) x) (fun k hk => .inl hk)
end

/-- a chunk that is new -/
def nc (nx sm sn pr : Int) (un bg en : Bool) (d : List Int) : Ch := ⟨nx, 0, 0, 0, 0, false, 0, ⟨sm, sn, pr, un, d, bg, en⟩⟩
theorem run_b59 (nx sm sn pr : Int) (un bg en : Bool) (va : Option Addr) (vl vc : Nat) (w : World) : (Instr.build 59 #[(0, .int .u32 nx), (7, .agg #[.int .u16 sm, .int .u16 sn, .int .u32 pr, .bool un, .slice va vl vc, .bool bg, .bool en])]).run Try.prog w = .ok (.agg #[.int .u32 nx, .int .i64 0, .int .i64 0, .int .i64 0, .int .i64 0, .bool false, .int .i64 0, .int .u16 sm, .int .u16 sn, .int .u32 pr, .bool un, .slice va vl vc, .bool bg, .bool en]) w := by kernel_rfl
theorem run_b108 (nx sm sn pr : Int) (un bg en : Bool) (va : Option Addr) (vl vc : Nat) (w : World) : (Instr.build 108 #[(0, .agg #[.int .u32 nx, .int .i64 0, .int .i64 0, .int .i64 0, .int .i64 0, .bool false, .int .i64 0, .int .u16 sm, .int .u16 sn, .int .u32 pr, .bool un, .slice va vl vc, .bool bg, .bool en])]).run Try.prog w = .ok (.agg #[.int .u32 nx, .int .i64 0, .int .i64 0, .int .i64 0, .int .i64 0, .bool false, .int .i64 0, .int .u16 sm, .int .u16 sn, .int .u32 pr, .bool un, .slice va vl vc, .bool bg, .bool en]) w := by kernel_rfl
theorem run_bs77 (nx sm sn pr : Int) (un bg en : Bool) (va : Option Addr) (vl vc : Nat) (w : World) : (Instr.buildSlice 77 1 #[(0, .agg #[.int .u32 nx, .int .i64 0, .int .i64 0, .int .i64 0, .int .i64 0, .bool false, .int .i64 0, .int .u16 sm, .int .u16 sn, .int .u32 pr, .bool un, .slice va vl vc, .bool bg, .bool en])]).run Try.prog w = .ok (.slice (some ⟨w.heap.size, 0, none⟩) 1 1) (w.alloc (.cells #[.int .u32 nx, .int .i64 0, .int .i64 0, .int .i64 0, .int .i64 0, .bool false, .int .i64 0, .int .u16 sm, .int .u16 sn, .int .u32 pr, .bool un, .slice va vl vc, .bool bg, .bool en] 108)) := by kernel_rfl

/-- behind a send -/
def PuB (D : Nat → Prop) (t f : Nat) (rv : Value) (nx : Int) (n : Nat) (L : List Ch) (W w' : World) : Prop := (∃ P', No D w' t f rv P' nx n L (fun k => fl L k) (mk L)) ∧ Mod (FC t f rv) W w'
theorem bounded_idx (w : World) (g oo m c : Nat) (hm : 1 ≤ m) (hc : m ≤ c) : (Instr.indexAt 77 (.slice (some ⟨g, oo, none⟩) m c) (.int .i64 ((m : Int) - 1))).run Try.prog w = .ok (.pointer (some ⟨g, oo + (m - 1) * 14, none⟩)) w := by
  have h1 : ¬ ((m : Int) - 1 < 0) := by omega
  have h2 : (m : Int) - 1 < (m : Int) := by omega
  have h3 : ((m : Int) - 1).toNat = m - 1 := by omega
  simp [go_sem, h2, h3]
  intro h
  omega
section
variable {D F : Nat → Prop} {w w' : World} {t f : Nat} {rv : Value} {P : List CV} {nx : Int} {n : Nat} {L : List Ch} {fs : Nat → Int} {m : Int} {i g o : Nat} {x y : Ch}
theorem fl_app (L : List Ch) (x : Ch) (p : Int) : fl (L ++ [x]) p = fl L p + flF p x := by unfold fl; rw [sm_append, sm_one]
theorem mk_app (L : List Ch) (x : Ch) : mk (L ++ [x]) = mk L + mkF x := by unfold mk; rw [sm_append, sm_one]
/-- a part as a value -/
def pv (sm sn pr : Int) (un bg en : Bool) (va : Option Addr) (vl vc : Nat) : Value := .agg #[.int .u16 sm, .int .u16 sn, .int .u32 pr, .bool un, .slice va vl vc, .bool bg, .bool en]
set_option maxHeartbeats 2000000 in
theorem put_ok (h : No D w t f rv P nx n L (fun k => fl L k) (mk L)) (hk : Lk n L) (hll : L.length ≤ 1000) (hD : ∀ k, w.heap.size ≤ k → D k) (pa now : Int) (hpa : 0 ≤ pa ∧ pa < n) (hnow : 0 ≤ now ∧ now ≤ 1099511627776) (sm sn pr : Int) (un bg en : Bool) (pb po pl pc : Nat) (d : List Int) (hr : Row w (some ⟨pb, po, none⟩) pl d) (h1 : 1 ≤ pl) (h2 : pl ≤ 65536) :
    Calls Try.prog 17 #[.pointer (some ⟨t, 0, none⟩), .int .i64 pa, pv sm sn pr un bg en (some ⟨pb, po, none⟩) pl pc, .int .i64 now] w fun e w' => e = .returned (.tuple #[.int .u32 nx, .int .i64 0]) ∧
      ∃ rv' P', No D w' t f rv' P' ((nx + 1) % 4294967296) n (L ++ [⟨nx, pa, 1, now, 0, false, 1, ⟨sm, sn, pr, un, d, bg, en⟩⟩]) (fun k => fl (L ++ [⟨nx, pa, 1, now, 0, false, 1, ⟨sm, sn, pr, un, d, bg, en⟩⟩]) k) (mk (L ++ [⟨nx, pa, 1, now, 0, false, 1, ⟨sm, sn, pr, un, d, bg, en⟩⟩])) ∧ Mod (FC t f rv) w w' ∧ ∀ k, rv'.ownBlock = some k → rv.ownBlock = some k ∨ w.heap.size ≤ k := by
  obtain ⟨W0, hW0⟩ : ∃ W0, W0 = w.alloc (.cells #[.int .u16 sm, .int .u16 sn, .int .u32 pr, .bool un, .slice (some ⟨pb, po, none⟩) pl pc, .bool bg, .bool en] 42) := ⟨_, rfl⟩
  have hO0 : Ow.Own w W0 [(w.heap.size, #[.int .u16 sm, .int .u16 sn, .int .u32 pr, .bool un, .slice (some ⟨pb, po, none⟩) pl pc, .bool bg, .bool en], 42)] := by rw [hW0]; exact (Ow.Own.refl w).alloc _ 42
  have hN0 := h.later hO0.below
  have U := hidden (unmade hN0)
  have H := hidden (has hN0 pa)
  rw [decide_eq_true hpa] at H
  have T := hidden (isTime now W0)
  rw [decide_eq_true hnow] at T
  have CL := hidden (clone (cap := pc) (hr.later hO0.below) h1)
  have HN0 := hidden hN0
  have HO0 := hidden hO0
  have HK := hidden hk
  have HLL := hidden hll
  have HPA := hidden hpa
  have HDD := hidden hD
  have HRL : Hid (d.length = pl) := hr.1
  have HFC : Hid (∀ k, FC t f rv k → k < w.heap.size) := fun k hk => h.lt hk
  have q0 := hN0.q.cell 0 rfl
  obtain ⟨ra, rc, hve, _⟩ := h.rw_.slice
  rw [h.len] at hve
  rw [hve] at q0
  have HVE := hidden hve
  have hll' : decide ((32768 : Int) ≤ (L.length : Int)) = false := decide_eq_false (by omega)
  generalize hrn : L.length = rn at q0 HVE hll'
  have x0 := hO0.cell (b := w.heap.size) (List.mem_cons_self ..) 4 rfl
  have HW0 := hidden hW0
  have hpl1 : decide ((pl : Int) < 1) = false := decide_eq_false (by omega)
  have hpl2 : decide ((65536 : Int) < (pl : Int)) = false := decide_eq_false (by omega)
  have H12 := hidden (And.intro h1 h2)
  have HRN := hidden hrn
  clear h hk hll hD hpa hnow hr hN0 hO0 hW0 hve h1 h2 hrn
  unfold pv
  go_enter Try.func17, Try.ntmps17
  go_wp2_with fail
  rw [← HW0.out]
  refine Calls.mono U.out ?_
  rintro e w' ⟨rfl, rfl⟩
  go_wp2_with fail
  refine Calls.mono H.out ?_
  rintro e w' ⟨rfl, rfl⟩
  go_wp2_with fail
  refine Calls.mono T.out ?_
  rintro e w' ⟨rfl, rfl⟩
  go_wp2_with fail
  refine Calls.mono CL.out ?_
  rintro e Wc ⟨v1, rfl, hm1, hB1⟩
  clear U H T CL HW0 x0 q0
  have hO1 := HO0.out.later hB1
  have hN1 := HN0.out.later hB1
  obtain ⟨va, vc, hv1, _⟩ := hm1.row
  rw [HRL.out] at hv1
  have x0 := hO1.cell (b := w.heap.size) (List.mem_cons_self ..) 4 rfl
  have rx := hO1.frozen (b := w.heap.size) (List.mem_cons_self ..) 4
  have q1 := hN1.q.cell 1 rfl
  have htl := hN1.q.lt
  obtain ⟨W1, hW1⟩ : ∃ W1, W1 = Wc.setCell ⟨w.heap.size, 4, none⟩ v1 := ⟨_, rfl⟩
  have hO2 := hO1.set 4 v1 (fun x hx => by cases hx)
  have hmx : Mod (fun k => k = w.heap.size) Wc W1 := by rw [hW1]; exact Mod.setCell (F := fun k => k = w.heap.size) Wc (p := ⟨w.heap.size, 4, none⟩) rfl v1
  have hN2 : No D W1 t f rv P nx n L (fun k => fl L k) (mk L) := hN1.stay hmx (fun k hk e => by have := HFC.out k hk; omega) (fun k cur _ hh e => by subst e; exact hh.ne (hO1.has (List.mem_cons_self ..)) (by decide) rfl)
  rw [← hW1] at hO2
  have hBx := hO2.has (b := w.heap.size) (List.mem_cons_self ..)
  have hB2 := hO2.below
  have hm2 : Mine W0.heap.size W1 v1 d := hm1.stay hmx (fun k hk e => by obtain ⟨cur, _, h2⟩ := hm1.obj hk; have := HO0.out.lt (b := w.heap.size) (List.mem_cons_self ..); omega)
  subst hv1
  have HBY : Hid (By D W1 (.slice va pl vc) d) := By.of_own hm2.1 hm2.2.1 (by rw [HRL.out]; exact H12.out.1) (by rw [HRL.out]; exact H12.out.2) (fun k hk => HDD.out k (by have := HO0.out.below.size; omega))
  have HBX : Hid (Has W1 w.heap.size #[.int .u16 sm, .int .u16 sn, .int .u32 pr, .bool un, .slice va pl vc, .bool bg, .bool en] 42) := hBx
  have HN2 := hidden hN2
  have HB2 := hidden hB2
  have HW1 := hidden hW1
  obtain ⟨vl, hvl⟩ : ∃ vl, vl = pl := ⟨_, rfl⟩
  clear hO1 hN1 hm1 hB1 hmx hO2 hN2 hBx hB2 hm2 hW1 HO0 HN0
  go_upto_region 11 with fail
  rw [← HW1.out]
  have HQ := hidden HN2.out.q
  have HV : Hid ((#[rv, .int .u32 nx, .slice (some ⟨f, 0, none⟩) n n, .int .i64 (mk L)] : Array Value)[0]? = some rv) := rfl
  have HR := hidden HN2.out.rw_
  have HL : Hid (P.length ≤ 1073741824) := by have := HN2.out.len; have := HLL.out; show _ ≤ _; omega
  have HO : Hid ((⟨nc nx sm sn pr un bg en d, .slice va pl vc⟩ : CV).v.oneCell' = true) := rfl
  generalize hqc : (#[rv, .int .u32 nx, .slice (some ⟨f, 0, none⟩) n n, .int .i64 (mk L)] : Array Value) = qc at HQ HV
  have HQC := hidden hqc
  clear hqc
  refine Ord.wp_region_ex0 (X := Value) (by kernel_rfl) 88 (fun x => [(some 54, .pointer (some ⟨t, 0, none⟩)), (some 55, .pointer (some ⟨t, 0, none⟩)), (some 56, .pointer (some ⟨t, 0, none⟩)), (some 57, .pointer (some ⟨t, 0, none⟩)), (some 58, .slice ra rn rc), (some 59, .int .u32 nx), (some 60, .agg #[.int .u16 sm, .int .u16 sn, .int .u32 pr, .bool un, .slice va pl vc, .bool bg, .bool en]), (some 61, .agg #[.int .u32 nx, .int .i64 0, .int .i64 0, .int .i64 0, .int .i64 0, .bool false, .int .i64 0, .int .u16 sm, .int .u16 sn, .int .u32 pr, .bool un, .slice va pl vc, .bool bg, .bool en]), (some 62, .agg #[.int .u32 nx, .int .i64 0, .int .i64 0, .int .i64 0, .int .i64 0, .bool false, .int .i64 0, .int .u16 sm, .int .u16 sn, .int .u32 pr, .bool un, .slice va pl vc, .bool bg, .bool en]), (some 63, .slice (some ⟨W1.heap.size, 0, none⟩) 1 1), (some 64, x), (some 65, .pointer (some ⟨t, 0, none⟩)), (some 66, .pointer (some ⟨t, 0, none⟩)), (none, undef)]) [some 54, some 55, some 56, some 57, some 58, some 59, some 60, some 61, some 62, some 63, some 64, some 65, some 66, none] rfl (fun listed hsz hr => Ord.all_listedC (rank := [0, 1, 2, 3, 4, 5, 6, 7, 8, 9, 10, 11, 12, 13]) (by kernel_rfl) hsz hr) (by rfl) (fun _ => rfl) (by kernel_rfl) (Rg.StM [9, 10, 13] (fun k x w' => PuA W1 t 0 qc rv P ⟨nc nx sm sn pr un bg en d, .slice va pl vc⟩ k x w')) (fun _ _ _ _ hL h => h.ext (n := 14) (by decide) hL) ?_ ?_ undef ?_
  case refine_1 =>
    intro x Lq iq oq ac w' ho hi hcl hdep hF hW
    have f1 : ac.tmps.size = 88 := hF.1
    match iq, ho, hi, hdep with
    | 0, ho, hi, hdep =>
      cases ho
      have da0 : ac.eval (.tmp 0) = .pointer (some ⟨t, 0, none⟩) := hF.old 0 rfl
      exact Ord.ex_value x rfl rfl (Rg.mv da0 rfl) rfl (hW.keep (by decide))
    | 1, ho, hi, hdep =>
      cases ho
      have da0 : ac.eval (.tmp 0) = .pointer (some ⟨t, 0, none⟩) := hF.old 0 rfl
      exact Ord.ex_value x rfl rfl (Rg.mv da0 rfl) rfl (hW.keep (by decide))
    | 2, ho, hi, hdep =>
      cases ho
      have da0 : ac.eval (.tmp 55) = .pointer (some ⟨t, 0, none⟩) := hF.2.2.2 1 55 _ rfl (hdep ⟨1, .data⟩ (by simp) rfl)
      exact Ord.ex_value x rfl rfl (Rg.nilc da0 rfl) rfl (hW.keep (by decide))
    | 3, ho, hi, hdep =>
      cases ho
      have da0 : ac.eval (.tmp 56) = .pointer (some ⟨t, 0, none⟩) := hF.2.2.2 2 56 _ rfl (hdep ⟨2, .data⟩ (by simp) rfl)
      exact Ord.ex_value x rfl rfl (Rg.fa da0 rfl (by simp [go_sem])) rfl (hW.keep (by decide))
    | 4, ho, hi, hdep =>
      cases ho
      have da0 : ac.eval (.tmp 57) = .pointer (some ⟨t, 0, none⟩) := hF.2.2.2 3 57 _ rfl (hdep ⟨3, .data⟩ (by simp) rfl)
      obtain ⟨kq, hlo, hhi, hA⟩ := hW.range 0 1 (.inl rfl) (.inr ⟨10, rfl, (Rg.no_of (fun h => hcl 10 _ rfl (h) ⟨4, .data⟩ (by simp) rfl) hi)⟩)
      have hcc := hA.cell HQ.out HV.out hhi
      exact Ord.ex_value x rfl rfl (Rg.load da0 rfl (by rw [HVE.out] at hcc; simp [go_sem, hcc])) rfl (hW.keep (by decide))
    | 5, ho, hi, hdep =>
      cases ho
      have da0 : ac.eval (.tmp 10) = .int .u32 nx := hF.old 10 rfl
      exact Ord.ex_value x rfl rfl (Rg.mv da0 rfl) rfl (hW.keep (by decide))
    | 6, ho, hi, hdep =>
      cases ho
      have da0 : ac.eval (.tmp 6) = .pointer (some ⟨w.heap.size, 0, none⟩) := hF.old 6 rfl
      obtain ⟨kq, hlo, hhi, hA⟩ := hW.range 0 0 (.inl rfl) (.inr ⟨9, rfl, (Rg.no_of (fun h => hcl 7 _ rfl (hcl 8 _ rfl (hcl 9 _ rfl (h) ⟨8, .data⟩ (by simp) rfl) ⟨7, .data⟩ (by simp) rfl) ⟨6, .data⟩ (by simp) rfl) hi)⟩)
      exact Ord.ex_value x rfl rfl (Rg.load da0 rfl (by rw [hA.h0 (by omega)]; simp [go_sem, HBX.out.cell 0 rfl, HBX.out.cell 1 rfl, HBX.out.cell 2 rfl, HBX.out.cell 3 rfl, HBX.out.cell 4 rfl, HBX.out.cell 5 rfl, HBX.out.cell 6 rfl])) rfl (hW.keep (by decide))
    | 7, ho, hi, hdep =>
      cases ho
      have da0 : ac.eval (.tmp 59) = .int .u32 nx := hF.2.2.2 5 59 _ rfl (hdep ⟨5, .data⟩ (by simp) rfl)
      have da1 : ac.eval (.tmp 60) = .agg #[.int .u16 sm, .int .u16 sn, .int .u32 pr, .bool un, .slice va pl vc, .bool bg, .bool en] := hF.2.2.2 6 60 _ rfl (hdep ⟨6, .data⟩ (by simp) rfl)
      exact Ord.ex_value x rfl rfl (Rg.bld rfl (by simp [da0, da1]) (run_b59 nx sm sn pr un bg en va pl vc _)) rfl (hW.keep (by decide))
    | 8, ho, hi, hdep =>
      cases ho
      have da0 : ac.eval (.tmp 61) = .agg #[.int .u32 nx, .int .i64 0, .int .i64 0, .int .i64 0, .int .i64 0, .bool false, .int .i64 0, .int .u16 sm, .int .u16 sn, .int .u32 pr, .bool un, .slice va pl vc, .bool bg, .bool en] := hF.2.2.2 7 61 _ rfl (hdep ⟨7, .data⟩ (by simp) rfl)
      exact Ord.ex_value x rfl rfl (Rg.bld rfl (by simp [da0]) (run_b108 nx sm sn pr un bg en va pl vc _)) rfl (hW.keep (by decide))
    | 9, ho, hi, hdep =>
      cases ho
      have da0 : ac.eval (.tmp 62) = .agg #[.int .u32 nx, .int .i64 0, .int .i64 0, .int .i64 0, .int .i64 0, .bool false, .int .i64 0, .int .u16 sm, .int .u16 sn, .int .u32 pr, .bool un, .slice va pl vc, .bool bg, .bool en] := hF.2.2.2 8 62 _ rfl (hdep ⟨8, .data⟩ (by simp) rfl)
      have hA := hW.at (k := 0) rfl hi (.inl rfl)
      have hw := hA.h0 rfl
      subst hw
      exact Ord.ex_value x rfl rfl (Rg.bsl rfl (by simp [da0]) (run_bs77 nx sm sn pr un bg en va pl vc _)) rfl (hW.next (k := 0) rfl (by decide) hi (.inl rfl) ⟨fun e => absurd e (by decide), fun _ => rfl, fun e => absurd e (by decide), fun e => absurd e (by decide)⟩)
    | 10, ho, hi, hdep =>
      cases ho
      have da0 : ac.eval (.tmp 58) = .slice ra rn rc := hF.2.2.2 4 58 _ rfl (hdep ⟨4, .data⟩ (by simp) rfl)
      have da1 : ac.eval (.tmp 63) = .slice (some ⟨W1.heap.size, 0, none⟩) 1 1 := hF.2.2.2 9 63 _ rfl (hdep ⟨9, .data⟩ (by simp) rfl)
      have hA := hW.at (k := 1) rfl hi (.inr ⟨9, rfl, (hdep ⟨9, .data⟩ (by simp) rfl)⟩)
      obtain ⟨v', w2, hr, hA2⟩ := hA.two HR.out HL.out HO.out 77
      rw [HVE.out] at hr
      exact Ord.ex_letter x v' rfl rfl (Rg.app da0 da1 rfl hr) rfl (fun j hj => match j, hj with | 0, _ => rfl | 1, _ => rfl | 2, _ => rfl | 3, _ => rfl | 4, _ => rfl | 5, _ => rfl | 6, _ => rfl | 7, _ => rfl | 8, _ => rfl | 9, _ => rfl | 10, hj => absurd hj (by rw [hi]; decide) | 11, _ => rfl | 12, _ => rfl | 13, _ => rfl | _ + 14, _ => rfl) (hW.next (k := 1) rfl (by decide) hi (.inr ⟨9, rfl, (hdep ⟨9, .data⟩ (by simp) rfl)⟩) hA2)
    | 11, ho, hi, hdep =>
      cases ho
      have da0 : ac.eval (.tmp 54) = .pointer (some ⟨t, 0, none⟩) := hF.2.2.2 0 54 _ rfl (hdep ⟨0, .data⟩ (by simp) rfl)
      exact Ord.ex_value x rfl rfl (Rg.nilc da0 rfl) rfl (hW.keep (by decide))
    | 12, ho, hi, hdep =>
      cases ho
      have da0 : ac.eval (.tmp 65) = .pointer (some ⟨t, 0, none⟩) := hF.2.2.2 11 65 _ rfl (hdep ⟨11, .data⟩ (by simp) rfl)
      exact Ord.ex_value x rfl rfl (Rg.fa da0 rfl (by simp [go_sem])) rfl (hW.keep (by decide))
    | 13, ho, hi, hdep =>
      cases ho
      have da0 : ac.eval (.tmp 66) = .pointer (some ⟨t, 0, none⟩) := hF.2.2.2 12 66 _ rfl (hdep ⟨12, .data⟩ (by simp) rfl)
      have da1 : ac.eval (.tmp 64) = x := hF.2.2.2 10 64 _ rfl (hdep ⟨10, .data⟩ (by simp) rfl)
      have hA := hW.at (k := 2) rfl hi (.inr ⟨10, rfl, (hdep ⟨10, .data⟩ (by simp) rfl)⟩)
      obtain ⟨hr, hA2⟩ := hA.three HQ.out HV.out HR.out
      exact Rg.ex_skip x rfl rfl (Rg.sto da0 da1 rfl hr) rfl (hW.next (k := 2) rfl (by decide) hi (.inr ⟨10, rfl, (hdep ⟨10, .data⟩ (by simp) rfl)⟩) hA2)
  case refine_3 => exact Rg.StM.first ⟨fun _ => rfl, fun e => absurd e (by decide), fun e => absurd e (by decide), fun e => absurd e (by decide)⟩
  case refine_2 =>
    intro v' W2 hW
    obtain ⟨u1, u2, u3, u4⟩ := hW.last.h3 rfl
    have hN3 := HN2.out.turn (P' := P ++ [⟨nc nx sm sn pr un bg en d, .slice va pl vc⟩]) u3 (by rw [← HQC.out] at u2; exact u2) u1 (fun q hq => by
      have hst : ∀ v zs, By D W1 v zs → By D W2 v zs := fun v zs hb => hb.stay u3 (fun k cur _ hh e => by
        rcases e with rfl | e
        · exact hh.ne HN2.out.q (by decide) rfl
        · exact HN2.out.bytes hh (.inr (.inr e)))
      rcases List.mem_append.1 hq with hq | hq
      · exact hst _ _ (HN2.out.by_ q hq)
      · simp at hq
        subst hq
        exact hst _ _ HBY.out)
    have hL2 : (P ++ [(⟨nc nx sm sn pr un bg en d, .slice va pl vc⟩ : CV)]).map (fun p : CV => p.x) = L ++ [nc nx sm sn pr un bg en d] := by rw [List.map_append, HN2.out.pr]; rfl
    rw [hL2] at hN3
    have hN4 := hN3.congr (fs' := fun k => fl (L ++ [nc nx sm sn pr un bg en d]) k) (m' := mk (L ++ [nc nx sm sn pr un bg en d])) (L' := L ++ [nc nx sm sn pr un bg en d]) (fun k hk => by rw [fl_app]; simp [flF, nc]) (by rw [mk_app]; simp [mkF, nc]) rfl
    have hlen4 := hN4.len
    obtain ⟨gg, oo2, c2, hv', _, hc2, _⟩ := hN4.rw_.open (by rw [hlen4]; simp)
    have hlk : Lk n (L ++ [nc nx sm sn pr un bg en d]) := ⟨by have := HLL.out; simp; omega, fun x hx => by
      rcases List.mem_append.1 hx with hx | hx
      · exact HK.out.2 x hx
      · simp at hx
        subst hx
        refine ⟨by show d.length ≤ _; rw [HRL.out]; exact H12.out.2, Int.le_refl _, ?_⟩
        show (0 : Int) < n
        have := HPA.out
        omega⟩
    have hat : (L ++ [nc nx sm sn pr un bg en d])[L.length]? = some (nc nx sm sn pr un bg en d) := by simp
    rw [hlen4] at hv' hc2
    have hpl : Pl v' L.length gg (oo2 + L.length * 14) := ⟨oo2, _, _, hv', rfl⟩
    have hse := send hN4.drew hlk hpl hat (by show (0 : Int) ≠ 1; decide) ⟨by show (0 : Int) ≤ 0; decide, by show (0 : Int) ≤ 2000; decide⟩ pa now HPA.out
    have hLs : (L ++ [nc nx sm sn pr un bg en d]).set L.length { nc nx sm sn pr un bg en d with pa := pa, se := now, ti := (nc nx sm sn pr un bg en d).ti + 1, mi := 0, st := 1 } = L ++ [⟨nx, pa, 1, now, 0, false, 1, ⟨sm, sn, pr, un, d, bg, en⟩⟩] := by
      rw [List.set_append_right _ _ (Nat.le_refl _)]; simp [nc]
    rw [hLs] at hse
    obtain ⟨m2, hm2⟩ : ∃ m2, m2 = L.length + 1 := ⟨_, rfl⟩
    rw [show (L ++ [nc nx sm sn pr un bg en d]).length = m2 by rw [hm2]; simp] at hv' hc2
    have HIX : Hid (∀ w, (Instr.indexAt 77 (.slice (some ⟨gg, oo2, none⟩) m2 c2) (.int .i64 ((m2 : Int) - 1))).run Try.prog w = .ok (.pointer (some ⟨gg, oo2 + L.length * 14, none⟩)) w) := fun w => by
      have := bounded_idx w gg oo2 m2 c2 (by omega) hc2
      rw [show m2 - 1 = L.length by omega] at this
      exact this
    subst hv'
    obtain ⟨g2, hg2⟩ : ∃ g2, g2 = gg := ⟨_, rfl⟩
    obtain ⟨o2, ho2⟩ : ∃ o2, o2 = oo2 + L.length * 14 := ⟨_, rfl⟩
    rw [← hg2, ← ho2] at HIX hse
    rw [← hg2] at hN4 u4
    have HWR : Hid (IntKind.i64.wrap ((m2 : Int) - 1) = (m2 : Int) - 1) := by show _ = _; rw [IntKind.wrap_i64]; have := HLL.out; omega
    have HC2 : Hid (∀ w', w' = W2.drew → w'.cell? ⟨t, 0, none⟩ = some (.slice (some ⟨g2, oo2, none⟩) m2 c2)) := fun w' e => by subst e; exact hN4.drew.q.cell 0 rfl
    have HSE : Hid (∀ w', w' = W2.drew → Calls Try.prog 46 #[.pointer (some ⟨t, 0, none⟩), .pointer (some ⟨g2, o2, none⟩), .int .i64 pa, .int .i64 now] w' fun e w'' => e = .returned (.tuple #[]) ∧ PuB D t f (.slice (some ⟨g2, oo2, none⟩) m2 c2) nx n (L ++ [⟨nx, pa, 1, now, 0, false, 1, ⟨sm, sn, pr, un, d, bg, en⟩⟩]) W2 w'') := fun w' e => by
      subst e
      refine hse.mono ?_
      rintro e w' ⟨rfl, hP, hm⟩
      exact ⟨rfl, hP, hm.drew⟩
    have HG3 := hidden u3
    have HG4 := hidden u4
    have HLTt : Hid (t < W2.heap.size) := hN4.q.lt
    generalize hL3 : L ++ [⟨nx, pa, 1, now, 0, false, 1, ⟨sm, sn, pr, un, d, bg, en⟩⟩] = L3 at HSE
    have HL3 := hidden hL3
    have ES : Hid (∀ (args : Array Value) (w : World), (callFunc 46 args).run Try.prog w = .ok (.enter 46 args) w) := enters_of Try.func46 (by kernel_rfl) rfl
    clear hW u1 u2 u3 u4 hN3 hN4 hL2 hlk hat hpl hse hLs hc2 hlen4 hm2 hg2 ho2 hL3
    simp only [Ord.puts, Ord.prs]
    go_simp
    go_upto_region 12 with fail
    refine Ord.wp_region_ex0 (X := Unit) (by kernel_rfl) 88 (fun x => [(some 67, .pointer (some ⟨t, 0, none⟩)), (some 68, .pointer (some ⟨t, 0, none⟩)), (some 69, .pointer (some ⟨t, 0, none⟩)), (some 70, .pointer (some ⟨t, 0, none⟩)), (some 71, .slice (some ⟨g2, oo2, none⟩) m2 c2), (some 72, .pointer (some ⟨t, 0, none⟩)), (some 73, .pointer (some ⟨t, 0, none⟩)), (some 74, .pointer (some ⟨t, 0, none⟩)), (some 75, .slice (some ⟨g2, oo2, none⟩) m2 c2), (some 76, .int .i64 (m2 : Int)), (some 77, .int .i64 ((m2 : Int) - 1)), (some 78, .pointer (some ⟨g2, o2, none⟩)), (some 79, .int .i64 pa), (some 80, .int .i64 now), (some 81, .tuple #[])]) [some 67, some 68, some 69, some 70, some 71, some 72, some 73, some 74, some 75, some 76, some 77, some 78, some 79, some 80, some 81] rfl (fun listed hsz hr => Ord.all_listedC (rank := [0, 1, 2, 3, 4, 5, 6, 7, 8, 9, 10, 11, 12, 13, 14]) (by kernel_rfl) hsz hr) (by rfl) (fun _ => rfl) (by kernel_rfl) (Rg.StM [14] (fun k _ w' => (k = 0 → w' = W2.drew) ∧ (k = 1 → PuB D t f (.slice (some ⟨g2, oo2, none⟩) m2 c2) nx n L3 W2 w'))) (fun _ _ _ _ hL h => h.ext (n := 15) (by decide) hL) ?_ ?_ () ?_
    case refine_1 =>
      intro x Lq iq oq ac w' ho hi hcl hdep hF hW
      have f1 : ac.tmps.size = 88 := hF.1
      match iq, ho, hi, hdep with
      | 0, ho, hi, hdep =>
        cases ho
        have da0 : ac.eval (.tmp 0) = .pointer (some ⟨t, 0, none⟩) := hF.old 0 rfl
        exact Ord.ex_value x rfl rfl (Rg.mv da0 rfl) rfl (hW.keep (by decide))
      | 1, ho, hi, hdep =>
        cases ho
        have da0 : ac.eval (.tmp 0) = .pointer (some ⟨t, 0, none⟩) := hF.old 0 rfl
        exact Ord.ex_value x rfl rfl (Rg.mv da0 rfl) rfl (hW.keep (by decide))
      | 2, ho, hi, hdep =>
        cases ho
        have da0 : ac.eval (.tmp 68) = .pointer (some ⟨t, 0, none⟩) := hF.2.2.2 1 68 _ rfl (hdep ⟨1, .data⟩ (by simp) rfl)
        exact Ord.ex_value x rfl rfl (Rg.nilc da0 rfl) rfl (hW.keep (by decide))
      | 3, ho, hi, hdep =>
        cases ho
        have da0 : ac.eval (.tmp 69) = .pointer (some ⟨t, 0, none⟩) := hF.2.2.2 2 69 _ rfl (hdep ⟨2, .data⟩ (by simp) rfl)
        exact Ord.ex_value x rfl rfl (Rg.fa da0 rfl (by simp [go_sem])) rfl (hW.keep (by decide))
      | 4, ho, hi, hdep =>
        cases ho
        have da0 : ac.eval (.tmp 70) = .pointer (some ⟨t, 0, none⟩) := hF.2.2.2 3 70 _ rfl (hdep ⟨3, .data⟩ (by simp) rfl)
        obtain ⟨kq, hlo, hhi, hA⟩ := hW.range 0 0 (.inl rfl) (.inr ⟨14, rfl, (Rg.no_of (fun h => hcl 11 _ rfl (hcl 14 _ rfl (h) ⟨11, .data⟩ (by simp) rfl) ⟨4, .data⟩ (by simp) rfl) hi)⟩)
        exact Ord.ex_value x rfl rfl (Rg.load da0 rfl (by simp [go_sem, HC2.out _ (hA.1 (by omega))])) rfl (hW.keep (by decide))
      | 5, ho, hi, hdep =>
        cases ho
        have da0 : ac.eval (.tmp 0) = .pointer (some ⟨t, 0, none⟩) := hF.old 0 rfl
        exact Ord.ex_value x rfl rfl (Rg.mv da0 rfl) rfl (hW.keep (by decide))
      | 6, ho, hi, hdep =>
        cases ho
        have da0 : ac.eval (.tmp 72) = .pointer (some ⟨t, 0, none⟩) := hF.2.2.2 5 72 _ rfl (hdep ⟨5, .data⟩ (by simp) rfl)
        exact Ord.ex_value x rfl rfl (Rg.nilc da0 rfl) rfl (hW.keep (by decide))
      | 7, ho, hi, hdep =>
        cases ho
        have da0 : ac.eval (.tmp 73) = .pointer (some ⟨t, 0, none⟩) := hF.2.2.2 6 73 _ rfl (hdep ⟨6, .data⟩ (by simp) rfl)
        exact Ord.ex_value x rfl rfl (Rg.fa da0 rfl (by simp [go_sem])) rfl (hW.keep (by decide))
      | 8, ho, hi, hdep =>
        cases ho
        have da0 : ac.eval (.tmp 74) = .pointer (some ⟨t, 0, none⟩) := hF.2.2.2 7 74 _ rfl (hdep ⟨7, .data⟩ (by simp) rfl)
        obtain ⟨kq, hlo, hhi, hA⟩ := hW.range 0 0 (.inl rfl) (.inr ⟨14, rfl, (Rg.no_of (fun h => hcl 9 _ rfl (hcl 10 _ rfl (hcl 11 _ rfl (hcl 14 _ rfl (h) ⟨11, .data⟩ (by simp) rfl) ⟨10, .data⟩ (by simp) rfl) ⟨9, .data⟩ (by simp) rfl) ⟨8, .data⟩ (by simp) rfl) hi)⟩)
        exact Ord.ex_value x rfl rfl (Rg.load da0 rfl (by simp [go_sem, HC2.out _ (hA.1 (by omega))])) rfl (hW.keep (by decide))
      | 9, ho, hi, hdep =>
        cases ho
        have da0 : ac.eval (.tmp 75) = .slice (some ⟨g2, oo2, none⟩) m2 c2 := hF.2.2.2 8 75 _ rfl (hdep ⟨8, .data⟩ (by simp) rfl)
        exact Ord.ex_value x rfl rfl (Rg.len_ da0 rfl (by simp [go_sem])) rfl (hW.keep (by decide))
      | 10, ho, hi, hdep =>
        cases ho
        have da0 : ac.eval (.tmp 76) = .int .i64 (m2 : Int) := hF.2.2.2 9 76 _ rfl (hdep ⟨9, .data⟩ (by simp) rfl)
        exact Ord.ex_value x rfl rfl (Rg.bin da0 rfl rfl (by simp [go_sem, HWR.out])) rfl (hW.keep (by decide))
      | 11, ho, hi, hdep =>
        cases ho
        have da0 : ac.eval (.tmp 71) = .slice (some ⟨g2, oo2, none⟩) m2 c2 := hF.2.2.2 4 71 _ rfl (hdep ⟨4, .data⟩ (by simp) rfl)
        have da1 : ac.eval (.tmp 77) = .int .i64 ((m2 : Int) - 1) := hF.2.2.2 10 77 _ rfl (hdep ⟨10, .data⟩ (by simp) rfl)
        exact Ord.ex_value x rfl rfl (Rg.ix da0 da1 rfl (HIX.out _)) rfl (hW.keep (by decide))
      | 12, ho, hi, hdep =>
        cases ho
        have da0 : ac.eval (.tmp 1) = .int .i64 pa := hF.old 1 rfl
        exact Ord.ex_value x rfl rfl (Rg.mv da0 rfl) rfl (hW.keep (by decide))
      | 13, ho, hi, hdep =>
        cases ho
        have da0 : ac.eval (.tmp 3) = .int .i64 now := hF.old 3 rfl
        exact Ord.ex_value x rfl rfl (Rg.mv da0 rfl) rfl (hW.keep (by decide))
      | 14, ho, hi, hdep =>
        cases ho
        have da0 : ac.eval (.tmp 67) = .pointer (some ⟨t, 0, none⟩) := hF.2.2.2 0 67 _ rfl (hdep ⟨0, .data⟩ (by simp) rfl)
        have da1 : ac.eval (.tmp 78) = .pointer (some ⟨g2, o2, none⟩) := hF.2.2.2 11 78 _ rfl (hdep ⟨11, .data⟩ (by simp) rfl)
        have da2 : ac.eval (.tmp 79) = .int .i64 pa := hF.2.2.2 12 79 _ rfl (hdep ⟨12, .data⟩ (by simp) rfl)
        have da3 : ac.eval (.tmp 80) = .int .i64 now := hF.2.2.2 13 80 _ rfl (hdep ⟨13, .data⟩ (by simp) rfl)
        have hA := hW.at (k := 0) rfl hi (.inl rfl)
        exact Rg.ex_call x rfl rfl (Rg.enter (args := #[.pointer (some ⟨t, 0, none⟩), .pointer (some ⟨g2, o2, none⟩), .int .i64 pa, .int .i64 now]) rfl rfl (by simp [da0, da1, da2, da3]) ES.out) (Calls.mono (HSE.out _ (hA.1 rfl)) (by rintro e w2 ⟨rfl, hP⟩; exact ⟨rfl, hW.next (k := 0) rfl (by decide) hi (.inl rfl) ⟨fun e => absurd e (by decide), fun _ => hP⟩⟩))
    case refine_3 => exact Rg.StM.first ⟨fun _ => rfl, fun e => absurd e (by decide)⟩
    case refine_2 =>
      intro _ W3 hW
      obtain ⟨⟨P3, hN5⟩, hm5⟩ := hW.last.2 rfl
      have HN5 := hidden hN5
      have HM5 := hidden hm5
      have AD := hidden (Ser.add nx 1 W3)
      have q1 := hN5.q.cell 1 rfl
      have r1 := hN5.q.frozen 1
      clear hW hN5 hm5
      simp only [Ord.puts, Ord.prs]
      go_simp
      go_wp2_with fail
      refine Calls.mono AD.out ?_
      rintro e w' ⟨rfl, rfl⟩
      go_wp2
      go_ret2
      have hL3 := HL3.out
      subst hL3
      refine ⟨rfl, _, P3, HN5.out.setQ (j := 1) rfl, ?_, ?_⟩
      · refine (((Mod.of_below (F := FC t f rv) HB2.out).trans HG3.out (fun k hk => .inl (hk.elim .inl (fun e => .inr (.inr e))))).trans HM5.out (fun k hk => ?_)).set (p := ⟨t, 1, none⟩) (.inl rfl) _
        rcases hk with rfl | rfl | hk
        · exact .inl (.inl rfl)
        · exact .inl (.inr (.inl rfl))
        · rcases HG4.out k hk with h | h
          · exact .inl (.inr (.inr h))
          · exact .inr (Nat.le_trans HB2.out.size h)
      · exact fun k hk => (HG4.out k hk).imp id (fun h => Nat.le_trans HB2.out.size h)
end
end Go.Proofs.Ytjceeckcfjjkkaa.Ob
