/-
  The document's box: a part is put.
  Conditions: the box lies in memory.
-/
import Derived.Test.YtjceeckcfjjkkaaOdF
namespace Go.Proofs.Ytjceeckcfjjkkaa.Ob
open Go.ChangeShapes Go.WideShapes Go.ChangeAt Go.RowKit
open Ba (hidden Has cell_lt heap_lt)
set_option linter.unusedVariables false
/-- worlds while a chunk is appended to the row of the document -/
structure PuR (W1 : World) (b o : Nat) (cs : Array Value) (v : Value) (ps : List CV) (p : CV) (k : Nat) (x : Value) (w' : World) : Prop where
  h0 : k = 0 → w' = W1.drew
  h1 : k = 1 → w' = W1.drew.alloc (.cells (cc p).toArray 59)
  h2 : k = 2 → Rw 59 w' x (ps ++ [p]) ∧ Mod (fun k => v.ownBlock = some k) (W1.drew.alloc (.cells (cc p).toArray 59)) w' ∧ ∀ k, x.ownBlock = some k → v.ownBlock = some k ∨ W1.heap.size ≤ k
  h3 : k = 3 → Rw 59 w' x (ps ++ [p]) ∧ Has w' b (cs.setIfInBounds o x) 91 ∧ Mod (fun k => k = b ∨ v.ownBlock = some k) W1 w' ∧ ∀ k, x.ownBlock = some k → v.ownBlock = some k ∨ W1.heap.size ≤ k
section
variable {W1 w' : World} {b o k : Nat} {cs : Array Value} {v x : Value} {ps : List CV} {p : CV}
theorem PuR.cell (h : PuR W1 b o cs v ps p k x w') (hc : Has W1 b cs 91) (hv : cs[o]? = some v) (hk : k ≤ 1) : w'.cell? ⟨b, o, none⟩ = some v := by
  rcases (show k = 0 ∨ k = 1 by omega) with e1 | e1
  · rw [h.h0 e1]; exact hc.cell o hv
  · rw [h.h1 e1]; exact (hc.later ((Below.refl _ W1).drew.alloc (Nat.le_refl _) _)).cell o hv
theorem PuR.two (h : PuR W1 b o cs v ps p 1 x w') (hr : Rw 59 W1 v ps) (hl : ps.length ≤ 1073741824) (h1 : p.v.oneCell' = true) (ty : TypeId) :
    ∃ v' w2, (Builtin.append_ #[55, 55] ty #[v, .slice (some ⟨W1.heap.size, 0, none⟩) 1 1]).run Try.prog w' = .ok v' w2 ∧ PuR W1 b o cs v ps p (1 + 1) v' w2 := by
  have hw := h.h1 rfl
  subst hw
  have hB : Below W1.heap.size W1 (W1.drew.alloc (.cells (cc p).toArray 59)) := (Below.refl _ W1).drew.alloc (Nat.le_refl _) _
  have hNw : Has (W1.drew.alloc (.cells (cc p).toArray 59)) W1.heap.size (cc p).toArray 59 := Has.new W1.drew _ _
  have hr' := hr.stay (F := fun k => W1.heap.size ≤ k) (Mod.of_below hB) (fun k hk hf => by obtain ⟨cur, hh⟩ := hr.obj hk; have := hh.lt; omega)
  obtain ⟨v', w2, hrun, g1, g2, g3⟩ := app_chunk Try.underlying55 info_out rfl (by decide) hr' hl h1 hNw ty
  exact ⟨v', w2, hrun, fun e => absurd e (by decide), fun e => absurd e (by decide), fun _ => ⟨g1, g2, fun k hk => (g3 k hk).imp id (fun h => by simp at h; omega)⟩, fun e => absurd e (by decide)⟩
theorem PuR.three (h : PuR W1 b o cs v ps p 2 x w') (hc : Has W1 b cs 91) (hv : cs[o]? = some v) (hr : Rw 59 W1 v ps) :
    (Instr.storeAt 55 (.pointer (some ⟨b, o, none⟩)) x).run Try.prog w' = .ok () (w'.setCell ⟨b, o, none⟩ x) ∧ PuR W1 b o cs v ps p (2 + 1) x (w'.setCell ⟨b, o, none⟩ x) := by
  obtain ⟨g1, g2, g3⟩ := h.h2 rfl
  have hB : Below W1.heap.size W1 (W1.drew.alloc (.cells (cc p).toArray 59)) := (Below.refl _ W1).drew.alloc (Nat.le_refl _) _
  have hne : ¬ v.ownBlock = some b := fun e => by obtain ⟨cur, hh⟩ := hr.obj e; exact hh.ne hc (by decide) rfl
  have hc1 : Has w' b cs 91 := g2.has (hc.later hB) hne
  have c4 := hc1.cell o hv
  have f4 := hc1.frozen o
  obtain ⟨a, cap, hx, _⟩ := g1.slice
  refine ⟨by rw [hx]; simp [go_sem, c4, f4], fun e => absurd e (by decide), fun e => absurd e (by decide), fun e => absurd e (by decide), fun _ => ⟨?_, hc1.set o x, ?_, g3⟩⟩
  · refine g1.stay (F := fun k => k = b) (Mod.setCell (F := fun k => k = b) w' (p := ⟨b, o, none⟩) rfl x) (fun k hk e => ?_)
    subst e
    obtain ⟨cur, hh⟩ := g1.obj hk
    exact hh.ne hc1 (by decide) rfl
  · exact ((Mod.of_below hB).trans g2 (fun k hk => .inl (.inr hk))).trans (Mod.setCell (F := fun k => k = b ∨ v.ownBlock = some k) w' (p := ⟨b, o, none⟩) (.inl rfl) x) (fun k hk => .inl hk)
end


theorem run_r59 (nx pa now sm sn pr : Int) (un bg en : Bool) (va : Option Addr) (vl vc : Nat) (w : World) : (Instr.build 59 #[(0, .int .u32 nx), (1, .int .i64 pa), (2, .int .i64 1), (3, .int .i64 now), (6, .int .i64 1), (7, .agg #[.int .u16 sm, .int .u16 sn, .int .u32 pr, .bool un, .slice va vl vc, .bool bg, .bool en])]).run Try.prog w = .ok (.agg #[.int .u32 nx, .int .i64 pa, .int .i64 1, .int .i64 now, .int .i64 0, .bool false, .int .i64 1, .int .u16 sm, .int .u16 sn, .int .u32 pr, .bool un, .slice va vl vc, .bool bg, .bool en]) w := by kernel_rfl
theorem run_rs55 (nx pa now sm sn pr : Int) (un bg en : Bool) (va : Option Addr) (vl vc : Nat) (w : World) : (Instr.buildSlice 55 1 #[(0, .agg #[.int .u32 nx, .int .i64 pa, .int .i64 1, .int .i64 now, .int .i64 0, .bool false, .int .i64 1, .int .u16 sm, .int .u16 sn, .int .u32 pr, .bool un, .slice va vl vc, .bool bg, .bool en])]).run Try.prog w = .ok (.slice (some ⟨w.heap.size, 0, none⟩) 1 1) (w.alloc (.cells #[.int .u32 nx, .int .i64 pa, .int .i64 1, .int .i64 now, .int .i64 0, .bool false, .int .i64 1, .int .u16 sm, .int .u16 sn, .int .u32 pr, .bool un, .slice va vl vc, .bool bg, .bool en] 59)) := by kernel_rfl
section
variable {D F G Q : Nat → Prop} {w w' : World} {r : Nat} {v : Value} {P : List CV} {n : Nat} {c : Int} {q : Rq} {L : List Ch} {i g o : Nat} {x y : Ch} {gs : List (Int × Int)}
/-- the row is another one -/
theorem Ro.turn {v' : Value} {P' : List CV} (h : Ro D w r v P n c L) (hq : Has w' r #[.int .i64 (n : Int), .int .u32 c, v'] 91) (hr : Rw 59 w' v' P') (hb : ∀ p ∈ P', By D w' p.v p.x.p.d) : Ro D w' r v' P' n c (P'.map (·.x)) := ⟨hq, hr, rfl, hb⟩
set_option maxRecDepth 8000 in
set_option maxHeartbeats 2000000 in
theorem r_put (h : Ro D w r v P n c L) (hcc : 0 ≤ c ∧ c < 4294967296) (hll : L.length ≤ 1000) (hD : ∀ k, w.heap.size ≤ k → D k) (pa now : Int) (hpa : 0 ≤ pa ∧ pa < (n : Int)) (hnow : 0 ≤ now ∧ now ≤ 1099511627776) (sm sn pr : Int) (un bg en : Bool) (pb po pl pc : Nat) (d : List Int) (hr : Row w (some ⟨pb, po, none⟩) pl d) (h1 : 1 ≤ pl) (h2 : pl ≤ 65536) :
    Calls Try.prog 29 #[.pointer (some ⟨r, 0, none⟩), .int .i64 pa, pv sm sn pr un bg en (some ⟨pb, po, none⟩) pl pc, .int .i64 now] w fun e w' => e = .returned (.tuple #[.int .u32 ((c + (L.length : Int) + 1) % 4294967296), .int .i64 0]) ∧
      ∃ v' P', Ro D w' r v' P' n c (L ++ [⟨(c + (L.length : Int) + 1) % 4294967296, pa, 1, now, 0, false, 1, ⟨sm, sn, pr, un, d, bg, en⟩⟩]) ∧ Mod (FD r v) w w' ∧ ∀ k, v'.ownBlock = some k → v.ownBlock = some k ∨ w.heap.size ≤ k := by
  obtain ⟨nx, hnx⟩ : ∃ nx, nx = (c + (L.length : Int) + 1) % 4294967296 := ⟨_, rfl⟩
  rw [← hnx]
  have HNXE := hidden hnx
  obtain ⟨W0, hW0⟩ : ∃ W0, W0 = w.alloc (.cells #[.int .u16 sm, .int .u16 sn, .int .u32 pr, .bool un, .slice (some ⟨pb, po, none⟩) pl pc, .bool bg, .bool en] 42) := ⟨_, rfl⟩
  have hO0 : Ow.Own w W0 [(w.heap.size, #[.int .u16 sm, .int .u16 sn, .int .u32 pr, .bool un, .slice (some ⟨pb, po, none⟩) pl pc, .bool bg, .bool en], 42)] := by rw [hW0]; exact (Ow.Own.refl w).alloc _ 42
  have hN0 := h.later hO0.below
  have H := hidden (r_has hN0 pa)
  rw [decide_eq_true hpa] at H
  have T := hidden (r_time now W0)
  rw [decide_eq_true hnow] at T
  obtain ⟨g, vc, Wc, hrun, hm1, hB1, hg1, hg2⟩ := own_copy (cap := pc) (hr.later hO0.below) (fun e => by cases e)
  have HRUN := hidden hrun
  have HRL : Hid (d.length = pl) := hr.1
  have HFC : Hid (∀ k, FD r v k → k < w.heap.size) := fun k hk => h.lt hk
  have HDD := hidden hD
  have HLL := hidden hll
  have H12 := hidden (And.intro h1 h2)
  obtain ⟨ra, rc, hve, _⟩ := h.rw_.slice
  rw [h.len] at hve
  have c2 := hN0.q.cell 2 rfl
  rw [hve] at c2
  have HVE := hidden hve
  have hO1 := hO0.later hB1
  have hN1 := hN0.later hB1
  obtain ⟨Wb, hWb⟩ : ∃ Wb, Wb = Wc.setCell ⟨w.heap.size, 4, none⟩ (.slice (some ⟨g, 0, none⟩) pl vc) := ⟨_, rfl⟩
  have hO2 := hO1.set 4 (.slice (some ⟨g, 0, none⟩) pl vc) (fun x hx => by cases hx)
  have hmx : Mod (fun k => k = w.heap.size) Wc Wb := by rw [hWb]; exact Mod.setCell (F := fun k => k = w.heap.size) Wc (p := ⟨w.heap.size, 4, none⟩) rfl _
  have hN2 : Ro D Wb r v P n c L := hN1.stay hmx (fun k hk e => by have := HFC.out k hk; omega) (fun k cur _ hh e => by subst e; exact hh.ne (hO1.has (List.mem_cons_self ..)) (by decide) rfl)
  rw [← hWb] at hO2
  have hm2 : Mine W0.heap.size Wb (.slice (some ⟨g, 0, none⟩) pl vc) d := hm1.stay hmx (fun k hk e => by obtain ⟨cur, _, h2⟩ := hm1.obj hk; have := hO0.lt (b := w.heap.size) (List.mem_cons_self ..); omega)
  have x0 := hO1.cell (b := w.heap.size) (List.mem_cons_self ..) 4 rfl
  have rx := hO1.frozen (b := w.heap.size) (List.mem_cons_self ..) 4
  have x4 := hO0.cell (b := w.heap.size) (List.mem_cons_self ..) 4 rfl
  obtain ⟨va, hva⟩ : ∃ va, va = some (⟨g, 0, none⟩ : Addr) := ⟨_, rfl⟩
  rw [← hva] at hm2 hWb hO2 HRUN
  have HBXb : Hid (Has Wb w.heap.size #[.int .u16 sm, .int .u16 sn, .int .u32 pr, .bool un, .slice va pl vc, .bool bg, .bool en] 42) := hO2.has (b := w.heap.size) (List.mem_cons_self ..)
  have HBYb : Hid (By D Wb (.slice va pl vc) d) := By.of_own hm2.1 hm2.2.1 (by rw [HRL.out]; exact H12.out.1) (by rw [HRL.out]; exact H12.out.2) (fun k hk => HDD.out k (by have := hO0.below.size; omega))
  have NX := hidden (r_next hN2 hcc (by omega))
  rw [← hnx] at NX
  have HNb := hidden hN2
  have HBb := hidden hO2.below
  have HWb := hidden hWb
  have HW0 := hidden hW0
  have hll' : decide ((32768 : Int) ≤ (L.length : Int)) = false := decide_eq_false (by omega)
  generalize hrn : L.length = rn at c2 HVE hll'
  have HRN := hidden hrn
  have hp0b : ((pl : Int) == 0) = false := by simp; omega
  have hp1 : decide ((65536 : Int) < (pl : Int)) = false := decide_eq_false (by omega)
  have hbl0 : w.heap.size < W0.heap.size := hO0.lt (b := w.heap.size) (List.mem_cons_self ..)
  clear h hcc hll hD hpa hnow hr h1 h2 hnx hO0 hN0 hrun hm1 hB1 hg1 hg2 hve hO1 hN1 hO2 hmx hN2 hm2 hva hWb hW0 hrn
  unfold pv
  go_enter Try.func29, Try.ntmps29
  go_wp2_with fail
  rw [← HW0.out]
  refine Calls.mono H.out ?_
  rintro e w' ⟨rfl, rfl⟩
  go_wp2_with fail
  refine Calls.mono T.out ?_
  rintro e w' ⟨rfl, rfl⟩
  go_wp2_with (at_builtin; refine Rg.wpList_app rfl _ _ _ rfl rfl rfl HRUN.out ?_; clear HRUN)
  rw [← HWb.out]
  refine Calls.mono NX.out ?_
  rintro e W1 ⟨rfl, hBn⟩
  have HN2 := hidden (HNb.out.later hBn)
  have HB2 := hidden (HBb.out.trans (hBn.mono HBb.out.size))
  have HBX := hidden (HBXb.out.later hBn)
  have HBY := hidden (HBYb.out.stay (Mod.of_below (F := fun k => Wb.heap.size ≤ k) hBn) (fun k cur _ hh e => by have := hh.lt; omega))
  clear hBn HNb HBb HBXb HBYb HWb NX c2 x0 rx x4
  go_upto_region 9 with fail
  have HQ := hidden HN2.out.q
  have HV : Hid ((#[.int .i64 (n : Int), .int .u32 c, v] : Array Value)[2]? = some v) := rfl
  have HR := hidden HN2.out.rw_
  have HL : Hid (P.length ≤ 1073741824) := by have := HN2.out.len; have := HLL.out; show _ ≤ _; omega
  have HO : Hid ((⟨⟨nx, pa, 1, now, 0, false, 1, ⟨sm, sn, pr, un, d, bg, en⟩⟩, .slice va pl vc⟩ : CV).v.oneCell' = true) := rfl
  generalize hqc : (#[.int .i64 (n : Int), .int .u32 c, v] : Array Value) = qc at HQ HV
  have HQC := hidden hqc
  clear hqc
  refine Ord.wp_region_ex0 (X := Value) (by kernel_rfl) 62 (fun x => [(some 47, .pointer (some ⟨r, 0, none⟩)), (some 48, .pointer (some ⟨r, 0, none⟩)), (some 49, .pointer (some ⟨r, 0, none⟩)), (some 50, .pointer (some ⟨r, 2, none⟩)), (some 51, .slice ra rn rc), (some 52, .int .u32 nx), (some 53, .int .i64 pa), (some 54, .int .i64 now), (some 55, .agg #[.int .u16 sm, .int .u16 sn, .int .u32 pr, .bool un, .slice va pl vc, .bool bg, .bool en]), (some 56, .agg #[.int .u32 nx, .int .i64 pa, .int .i64 1, .int .i64 now, .int .i64 0, .bool false, .int .i64 1, .int .u16 sm, .int .u16 sn, .int .u32 pr, .bool un, .slice va pl vc, .bool bg, .bool en]), (some 57, .slice (some ⟨W1.heap.size, 0, none⟩) 1 1), (some 58, x), (some 59, .pointer (some ⟨r, 0, none⟩)), (some 60, .pointer (some ⟨r, 2, none⟩)), (none, undef)]) [some 47, some 48, some 49, some 50, some 51, some 52, some 53, some 54, some 55, some 56, some 57, some 58, some 59, some 60, none] rfl (fun listed hsz hr => Ord.all_listedC (rank := [0, 1, 2, 3, 4, 5, 6, 7, 8, 9, 10, 11, 12, 13, 14]) (by kernel_rfl) hsz hr) (by rfl) (fun _ => rfl) (by kernel_rfl) (Rg.StM [10, 11, 14] (fun k x w' => PuR W1 r 2 qc v P ⟨⟨nx, pa, 1, now, 0, false, 1, ⟨sm, sn, pr, un, d, bg, en⟩⟩, .slice va pl vc⟩ k x w')) (fun _ _ _ _ hL h => h.ext (n := 15) (by decide) hL) ?_ ?_ undef ?_
  case refine_1 =>
    intro x Lq iq oq ac w' ho hi hcl hdep hF hW
    have f1 : ac.tmps.size = 62 := hF.1
    match iq, ho, hi, hdep with
    | 0, ho, hi, hdep =>
      cases ho
      have da0 : ac.eval (.tmp 0) = .pointer (some ⟨r, 0, none⟩) := hF.old 0 rfl
      exact Ord.ex_value x rfl rfl (Rg.mv da0 rfl) rfl (hW.keep (by decide))
    | 1, ho, hi, hdep =>
      cases ho
      have da0 : ac.eval (.tmp 0) = .pointer (some ⟨r, 0, none⟩) := hF.old 0 rfl
      exact Ord.ex_value x rfl rfl (Rg.mv da0 rfl) rfl (hW.keep (by decide))
    | 2, ho, hi, hdep =>
      cases ho
      have da0 : ac.eval (.tmp 48) = .pointer (some ⟨r, 0, none⟩) := hF.2.2.2 1 48 _ rfl (hdep ⟨1, .data⟩ (by simp) rfl)
      exact Ord.ex_value x rfl rfl (Rg.nilc da0 rfl) rfl (hW.keep (by decide))
    | 3, ho, hi, hdep =>
      cases ho
      have da0 : ac.eval (.tmp 49) = .pointer (some ⟨r, 0, none⟩) := hF.2.2.2 2 49 _ rfl (hdep ⟨2, .data⟩ (by simp) rfl)
      exact Ord.ex_value x rfl rfl (Rg.fa da0 rfl (by simp [go_sem])) rfl (hW.keep (by decide))
    | 4, ho, hi, hdep =>
      cases ho
      have da0 : ac.eval (.tmp 50) = .pointer (some ⟨r, 2, none⟩) := hF.2.2.2 3 50 _ rfl (hdep ⟨3, .data⟩ (by simp) rfl)
      obtain ⟨kq, hlo, hhi, hA⟩ := hW.range 0 1 (.inl rfl) (.inr ⟨11, rfl, (Rg.no_of (fun h => hcl 11 _ rfl (h) ⟨4, .data⟩ (by simp) rfl) hi)⟩)
      have hcc := hA.cell HQ.out HV.out hhi
      exact Ord.ex_value x rfl rfl (Rg.load da0 rfl (by rw [HVE.out] at hcc; simp [go_sem, hcc])) rfl (hW.keep (by decide))
    | 5, ho, hi, hdep =>
      cases ho
      have da0 : ac.eval (.tmp 10) = .int .u32 nx := hF.old 10 rfl
      exact Ord.ex_value x rfl rfl (Rg.mv da0 rfl) rfl (hW.keep (by decide))
    | 6, ho, hi, hdep =>
      cases ho
      have da0 : ac.eval (.tmp 1) = .int .i64 pa := hF.old 1 rfl
      exact Ord.ex_value x rfl rfl (Rg.mv da0 rfl) rfl (hW.keep (by decide))
    | 7, ho, hi, hdep =>
      cases ho
      have da0 : ac.eval (.tmp 3) = .int .i64 now := hF.old 3 rfl
      exact Ord.ex_value x rfl rfl (Rg.mv da0 rfl) rfl (hW.keep (by decide))
    | 8, ho, hi, hdep =>
      cases ho
      have da0 : ac.eval (.tmp 6) = .pointer (some ⟨w.heap.size, 0, none⟩) := hF.old 6 rfl
      obtain ⟨kq, hlo, hhi, hA⟩ := hW.range 0 0 (.inl rfl) (.inr ⟨10, rfl, (Rg.no_of (fun h => hcl 9 _ rfl (hcl 10 _ rfl (h) ⟨9, .data⟩ (by simp) rfl) ⟨8, .data⟩ (by simp) rfl) hi)⟩)
      exact Ord.ex_value x rfl rfl (Rg.load da0 rfl (by rw [hA.h0 (by omega)]; simp [go_sem, HBX.out.cell 0 rfl, HBX.out.cell 1 rfl, HBX.out.cell 2 rfl, HBX.out.cell 3 rfl, HBX.out.cell 4 rfl, HBX.out.cell 5 rfl, HBX.out.cell 6 rfl])) rfl (hW.keep (by decide))
    | 9, ho, hi, hdep =>
      cases ho
      have da0 : ac.eval (.tmp 52) = .int .u32 nx := hF.2.2.2 5 52 _ rfl (hdep ⟨5, .data⟩ (by simp) rfl)
      have da1 : ac.eval (.tmp 53) = .int .i64 pa := hF.2.2.2 6 53 _ rfl (hdep ⟨6, .data⟩ (by simp) rfl)
      have da2 : ac.eval (.tmp 54) = .int .i64 now := hF.2.2.2 7 54 _ rfl (hdep ⟨7, .data⟩ (by simp) rfl)
      have da3 : ac.eval (.tmp 55) = .agg #[.int .u16 sm, .int .u16 sn, .int .u32 pr, .bool un, .slice va pl vc, .bool bg, .bool en] := hF.2.2.2 8 55 _ rfl (hdep ⟨8, .data⟩ (by simp) rfl)
      exact Ord.ex_value x rfl rfl (Rg.bld rfl (by simp [da0, da1, da2, da3]; rfl) (run_r59 nx pa now sm sn pr un bg en va pl vc _)) rfl (hW.keep (by decide))
    | 10, ho, hi, hdep =>
      cases ho
      have da0 : ac.eval (.tmp 56) = .agg #[.int .u32 nx, .int .i64 pa, .int .i64 1, .int .i64 now, .int .i64 0, .bool false, .int .i64 1, .int .u16 sm, .int .u16 sn, .int .u32 pr, .bool un, .slice va pl vc, .bool bg, .bool en] := hF.2.2.2 9 56 _ rfl (hdep ⟨9, .data⟩ (by simp) rfl)
      have hA := hW.at (k := 0) rfl hi (.inl rfl)
      have hw := hA.h0 rfl
      subst hw
      exact Ord.ex_value x rfl rfl (Rg.bsl rfl (by simp [da0]) (run_rs55 nx pa now sm sn pr un bg en va pl vc _)) rfl (hW.next (k := 0) rfl (by decide) hi (.inl rfl) ⟨fun e => absurd e (by decide), fun _ => rfl, fun e => absurd e (by decide), fun e => absurd e (by decide)⟩)
    | 11, ho, hi, hdep =>
      cases ho
      have da0 : ac.eval (.tmp 51) = .slice ra rn rc := hF.2.2.2 4 51 _ rfl (hdep ⟨4, .data⟩ (by simp) rfl)
      have da1 : ac.eval (.tmp 57) = .slice (some ⟨W1.heap.size, 0, none⟩) 1 1 := hF.2.2.2 10 57 _ rfl (hdep ⟨10, .data⟩ (by simp) rfl)
      have hA := hW.at (k := 1) rfl hi (.inr ⟨10, rfl, (hdep ⟨10, .data⟩ (by simp) rfl)⟩)
      obtain ⟨v', w2, hr, hA2⟩ := hA.two HR.out HL.out HO.out 55
      rw [HVE.out] at hr
      exact Ord.ex_letter x v' rfl rfl (Rg.app da0 da1 rfl hr) rfl (fun j hj => match j, hj with | 0, _ => rfl | 1, _ => rfl | 2, _ => rfl | 3, _ => rfl | 4, _ => rfl | 5, _ => rfl | 6, _ => rfl | 7, _ => rfl | 8, _ => rfl | 9, _ => rfl | 10, _ => rfl | 11, hj => absurd hj (by rw [hi]; decide) | 12, _ => rfl | 13, _ => rfl | 14, _ => rfl | _ + 15, _ => rfl) (hW.next (k := 1) rfl (by decide) hi (.inr ⟨10, rfl, (hdep ⟨10, .data⟩ (by simp) rfl)⟩) hA2)
    | 12, ho, hi, hdep =>
      cases ho
      have da0 : ac.eval (.tmp 47) = .pointer (some ⟨r, 0, none⟩) := hF.2.2.2 0 47 _ rfl (hdep ⟨0, .data⟩ (by simp) rfl)
      exact Ord.ex_value x rfl rfl (Rg.nilc da0 rfl) rfl (hW.keep (by decide))
    | 13, ho, hi, hdep =>
      cases ho
      have da0 : ac.eval (.tmp 59) = .pointer (some ⟨r, 0, none⟩) := hF.2.2.2 12 59 _ rfl (hdep ⟨12, .data⟩ (by simp) rfl)
      exact Ord.ex_value x rfl rfl (Rg.fa da0 rfl (by simp [go_sem])) rfl (hW.keep (by decide))
    | 14, ho, hi, hdep =>
      cases ho
      have da0 : ac.eval (.tmp 60) = .pointer (some ⟨r, 2, none⟩) := hF.2.2.2 13 60 _ rfl (hdep ⟨13, .data⟩ (by simp) rfl)
      have da1 : ac.eval (.tmp 58) = x := hF.2.2.2 11 58 _ rfl (hdep ⟨11, .data⟩ (by simp) rfl)
      have hA := hW.at (k := 2) rfl hi (.inr ⟨11, rfl, (hdep ⟨11, .data⟩ (by simp) rfl)⟩)
      obtain ⟨hr, hA2⟩ := hA.three HQ.out HV.out HR.out
      exact Rg.ex_skip x rfl rfl (Rg.sto da0 da1 rfl hr) rfl (hW.next (k := 2) rfl (by decide) hi (.inr ⟨11, rfl, (hdep ⟨11, .data⟩ (by simp) rfl)⟩) hA2)
  case refine_3 => exact Rg.StM.first ⟨fun _ => rfl, fun e => absurd e (by decide), fun e => absurd e (by decide), fun e => absurd e (by decide)⟩
  case refine_2 =>
    intro v' W2 hW
    obtain ⟨u1, u2, u3, u4⟩ := hW.last.h3 rfl
    have hN3 := HN2.out.turn (P' := P ++ [⟨⟨nx, pa, 1, now, 0, false, 1, ⟨sm, sn, pr, un, d, bg, en⟩⟩, .slice va pl vc⟩]) (by rw [← HQC.out] at u2; exact u2) u1 (fun q hq => by
      have hst : ∀ v zs, By D W1 v zs → By D W2 v zs := fun v zs hb => hb.stay u3 (fun k cur _ hh e => HN2.out.bytes hh e)
      rcases List.mem_append.1 hq with hq | hq
      · exact hst _ _ (HN2.out.by_ q hq)
      · simp at hq
        subst hq
        exact hst _ _ HBY.out)
    have hL2 : (P ++ [(⟨⟨nx, pa, 1, now, 0, false, 1, ⟨sm, sn, pr, un, d, bg, en⟩⟩, .slice va pl vc⟩ : CV)]).map (fun p : CV => p.x) = L ++ [⟨nx, pa, 1, now, 0, false, 1, ⟨sm, sn, pr, un, d, bg, en⟩⟩] := by rw [List.map_append, HN2.out.pr]; rfl
    rw [hL2] at hN3
    have HN3 := hidden hN3
    have HM3 : Hid (Mod (FD r v) w W2) := (Mod.of_below (F := FD r v) HB2.out).trans u3 (fun k hk => .inl hk)
    have HU4 : Hid (∀ k, v'.ownBlock = some k → v.ownBlock = some k ∨ w.heap.size ≤ k) := fun k hk => (u4 k hk).imp id (fun h => Nat.le_trans HB2.out.size h)
    clear hW u1 u2 u3 u4 hN3 hL2
    simp only [Ord.puts, Ord.prs]
    go_simp
    go_wp2
    go_ret2
    exact ⟨rfl, v', ⟨_, HN3.out⟩, HM3.out, HU4.out⟩
theorem r_put_path (h : Ro D w r v P n c L) (pa now : Int) (hpa : ¬ (0 ≤ pa ∧ pa < (n : Int))) {vl vc : Nat} (sm sn pr : Int) (un bg en : Bool) (va : Option Addr) :
    Calls Try.prog 29 #[.pointer (some ⟨r, 0, none⟩), .int .i64 pa, pv sm sn pr un bg en va vl vc, .int .i64 now] w fun e w' => e = .returned (.tuple #[.int .u32 0, .int .i64 90]) ∧ Below w.heap.size w w' := by
  obtain ⟨W0, hW0⟩ : ∃ W0, W0 = w.alloc (.cells #[.int .u16 sm, .int .u16 sn, .int .u32 pr, .bool un, .slice va vl vc, .bool bg, .bool en] 42) := ⟨_, rfl⟩
  have hO0 : Ow.Own w W0 [(w.heap.size, #[.int .u16 sm, .int .u16 sn, .int .u32 pr, .bool un, .slice va vl vc, .bool bg, .bool en], 42)] := by rw [hW0]; exact (Ow.Own.refl w).alloc _ 42
  have x4 := hO0.cell (b := w.heap.size) (List.mem_cons_self ..) 4 rfl
  have H := hidden (r_has (h.later hO0.below) pa)
  rw [decide_eq_false hpa] at H
  have HB0 := hidden hO0.below
  have HW0 := hidden hW0
  clear h hpa hO0 hW0
  unfold pv
  go_enter Try.func29, Try.ntmps29
  go_wp2_with fail
  rw [← HW0.out]
  refine Calls.mono H.out ?_
  rintro e w' ⟨rfl, rfl⟩
  go_wp2
  go_ret2
  exact ⟨rfl, HB0.out⟩
theorem r_put_time (h : Ro D w r v P n c L) (pa now : Int) (hpa : 0 ≤ pa ∧ pa < (n : Int)) (hnow : ¬ (0 ≤ now ∧ now ≤ 1099511627776)) {vl vc : Nat} (sm sn pr : Int) (un bg en : Bool) (va : Option Addr) :
    Calls Try.prog 29 #[.pointer (some ⟨r, 0, none⟩), .int .i64 pa, pv sm sn pr un bg en va vl vc, .int .i64 now] w fun e w' => e = .returned (.tuple #[.int .u32 0, .int .i64 1]) ∧ Below w.heap.size w w' := by
  obtain ⟨W0, hW0⟩ : ∃ W0, W0 = w.alloc (.cells #[.int .u16 sm, .int .u16 sn, .int .u32 pr, .bool un, .slice va vl vc, .bool bg, .bool en] 42) := ⟨_, rfl⟩
  have hO0 : Ow.Own w W0 [(w.heap.size, #[.int .u16 sm, .int .u16 sn, .int .u32 pr, .bool un, .slice va vl vc, .bool bg, .bool en], 42)] := by rw [hW0]; exact (Ow.Own.refl w).alloc _ 42
  have x4 := hO0.cell (b := w.heap.size) (List.mem_cons_self ..) 4 rfl
  have H := hidden (r_has (h.later hO0.below) pa)
  rw [decide_eq_true hpa] at H
  have T := hidden (r_time now W0)
  rw [decide_eq_false hnow] at T
  have HB0 := hidden hO0.below
  have HW0 := hidden hW0
  clear h hpa hnow hO0 hW0
  unfold pv
  go_enter Try.func29, Try.ntmps29
  go_wp2_with fail
  rw [← HW0.out]
  refine Calls.mono H.out ?_
  rintro e w' ⟨rfl, rfl⟩
  go_wp2_with fail
  refine Calls.mono T.out ?_
  rintro e w' ⟨rfl, rfl⟩
  go_wp2
  go_ret2
  exact ⟨rfl, HB0.out⟩
theorem r_put_few (h : Ro D w r v P n c L) (pa now : Int) (hpa : 0 ≤ pa ∧ pa < (n : Int)) (hnow : 0 ≤ now ∧ now ≤ 1099511627776) {vl vc : Nat} (hl : vl = 0) (sm sn pr : Int) (un bg en : Bool) (va : Option Addr) :
    Calls Try.prog 29 #[.pointer (some ⟨r, 0, none⟩), .int .i64 pa, pv sm sn pr un bg en va vl vc, .int .i64 now] w fun e w' => e = .returned (.tuple #[.int .u32 0, .int .i64 1]) ∧ Below w.heap.size w w' := by
  obtain ⟨W0, hW0⟩ : ∃ W0, W0 = w.alloc (.cells #[.int .u16 sm, .int .u16 sn, .int .u32 pr, .bool un, .slice va vl vc, .bool bg, .bool en] 42) := ⟨_, rfl⟩
  have hO0 : Ow.Own w W0 [(w.heap.size, #[.int .u16 sm, .int .u16 sn, .int .u32 pr, .bool un, .slice va vl vc, .bool bg, .bool en], 42)] := by rw [hW0]; exact (Ow.Own.refl w).alloc _ 42
  have x4 := hO0.cell (b := w.heap.size) (List.mem_cons_self ..) 4 rfl
  have H := hidden (r_has (h.later hO0.below) pa)
  rw [decide_eq_true hpa] at H
  have T := hidden (r_time now W0)
  rw [decide_eq_true hnow] at T
  have HB0 := hidden hO0.below
  have HW0 := hidden hW0
  clear h hpa hnow hO0 hW0
  subst hl
  unfold pv
  go_enter Try.func29, Try.ntmps29
  go_wp2_with fail
  rw [← HW0.out]
  refine Calls.mono H.out ?_
  rintro e w' ⟨rfl, rfl⟩
  go_wp2_with fail
  refine Calls.mono T.out ?_
  rintro e w' ⟨rfl, rfl⟩
  go_wp2
  go_ret2
  exact ⟨rfl, HB0.out⟩
theorem r_put_many (h : Ro D w r v P n c L) (pa now : Int) (hpa : 0 ≤ pa ∧ pa < (n : Int)) (hnow : 0 ≤ now ∧ now ≤ 1099511627776) {vl vc : Nat} (hl : 65536 < vl) (sm sn pr : Int) (un bg en : Bool) (va : Option Addr) :
    Calls Try.prog 29 #[.pointer (some ⟨r, 0, none⟩), .int .i64 pa, pv sm sn pr un bg en va vl vc, .int .i64 now] w fun e w' => e = .returned (.tuple #[.int .u32 0, .int .i64 1]) ∧ Below w.heap.size w w' := by
  obtain ⟨W0, hW0⟩ : ∃ W0, W0 = w.alloc (.cells #[.int .u16 sm, .int .u16 sn, .int .u32 pr, .bool un, .slice va vl vc, .bool bg, .bool en] 42) := ⟨_, rfl⟩
  have hO0 : Ow.Own w W0 [(w.heap.size, #[.int .u16 sm, .int .u16 sn, .int .u32 pr, .bool un, .slice va vl vc, .bool bg, .bool en], 42)] := by rw [hW0]; exact (Ow.Own.refl w).alloc _ 42
  have x4 := hO0.cell (b := w.heap.size) (List.mem_cons_self ..) 4 rfl
  have H := hidden (r_has (h.later hO0.below) pa)
  rw [decide_eq_true hpa] at H
  have T := hidden (r_time now W0)
  rw [decide_eq_true hnow] at T
  have HB0 := hidden hO0.below
  have HW0 := hidden hW0
  clear h hpa hnow hO0 hW0
  have hp0b : ((vl : Int) == 0) = false := by simp; omega
  have hp1 : decide ((65536 : Int) < (vl : Int)) = true := decide_eq_true (by omega)
  clear hl
  unfold pv
  go_enter Try.func29, Try.ntmps29
  go_wp2_with fail
  rw [← HW0.out]
  refine Calls.mono H.out ?_
  rintro e w' ⟨rfl, rfl⟩
  go_wp2_with fail
  refine Calls.mono T.out ?_
  rintro e w' ⟨rfl, rfl⟩
  go_wp2
  go_ret2
  exact ⟨rfl, HB0.out⟩
end
end Go.Proofs.Ytjceeckcfjjkkaa.Ob
