/-
  Take, and Next.
  Conditions: the queue lies in memory, or is nil, or was made by no call.
-/
import Derived.Test.YtfgoamfoddkafaaSqH
import Derived.Test.YtfgoamfoddkafaaSqF
import Derived.Test.YtfgoamfoddkafaaSqD
namespace Go.Proofs.Ytfgoamfoddkafaa.Sq
open Go.ChangeShapes Go.WideShapes Go.ChangeAt Go.RowKit
open Ba (hidden Has Only cell_lt heap_lt)
set_option linter.unusedVariables false

def zPv : Value := .agg #[.int .u16 0, .int .u16 0, .int .u32 0, .bool false, .slice none 0 0, .bool false, .bool false]
theorem lane_take {D : Nat → Prop} {w : World} {b o : Nat} {cs : Array Value} {v : Value} {s n : Int} {p : RV} {ps : List RV} (hc : Has w b cs 71) (hv : cs[o]? = some v) (hs : cs[o + 1]? = some (.int .u16 s)) (hsr : 0 ≤ s ∧ s < 65536)
    (hr : Rw w v (p :: ps)) (hby : By D w p.v p.r.d) (hn : 1 ≤ n) (hd : 1 ≤ p.r.d.length) :
    Calls Try.prog 33 #[.pointer (some ⟨b, o, none⟩), .int .i64 n] w fun e w' => ∃ x, e = .returned (pcv (cut p.r s n) x) ∧ Mine w.heap.size w' x (cut p.r s n).d ∧ Tk D w b o cs v s p.r ps n w' := by
  rcases hr with ⟨_, h0⟩ | ⟨g, off, cap, cur, rfl, h1, hh, h2, h3, h4, hcell⟩
  · cases h0
  · rw [List.length_cons] at h2
    by_cases hl : (p.r.d.length : Int) ≤ n
    · cases hb : p.r.bg with
      | false => exact take_0a hc hv hs hsr hh h2 h3 h4 hcell hby hn hd hb hl
      | true =>
        cases hu : p.r.un with
        | true => exact take_1a hc hv hs hsr hh h2 h3 h4 hcell hby hn hd hb hu hl
        | false => exact take_2a hc hv hs hsr hh h2 h3 h4 hcell hby hn hd hb hu hl
    · cases hb : p.r.bg with
      | false => exact take_0c hc hv hs hsr hh h2 h3 h4 hcell hby hn hd hb hl
      | true =>
        cases hu : p.r.un with
        | true => exact take_1c hc hv hs hsr hh h2 h3 h4 hcell hby hn hd hb hu hl
        | false => exact take_2c hc hv hs hsr hh h2 h3 h4 hcell hby hn hd hb hu hl
theorem results_row_tmp {P : Program} {fn : Func} {p u : Tmp} {ty t : TypeId} (h : fn.results = #[.cell p ty, .tmp u]) (tmps : Array Value) (w : World) (g : Nat) (cs : Array Value) (d : TypeDesc) (hp : tmps.getD p undef = .pointer (some ⟨g, 0, none⟩)) (hg : Has w g cs t)
    (hu : P.underlying ty = some d) (hd : (match d with | .struct _ | .array _ _ => true | _ => false) = true) (hi : (P.info? ty).map (·.size) = some cs.size) : (results fn tmps).run P w = .ok (.tuple #[.agg cs, tmps.getD u undef]) w := by
  rw [results_cell_tmp h, hp]
  simp [asAddr, run_loadVar_row w g t ty cs (0, 0) d hg hu hd hi]
theorem seven {W : World} {b : Nat} {t : TypeId} (h : Has W b zP t) (v0 v1 v2 v3 v4 v5 v6 : Value) : Has (((((((W.setCell ⟨b, 0, none⟩ v0).setCell ⟨b, 1, none⟩ v1).setCell ⟨b, 2, none⟩ v2).setCell ⟨b, 3, none⟩ v3).setCell ⟨b, 4, none⟩ v4).setCell ⟨b, 5, none⟩ v5).setCell ⟨b, 6, none⟩ v6) b #[v0, v1, v2, v3, v4, v5, v6] t ∧
    Mod (fun k => k = b) W (((((((W.setCell ⟨b, 0, none⟩ v0).setCell ⟨b, 1, none⟩ v1).setCell ⟨b, 2, none⟩ v2).setCell ⟨b, 3, none⟩ v3).setCell ⟨b, 4, none⟩ v4).setCell ⟨b, 5, none⟩ v5).setCell ⟨b, 6, none⟩ v6) := by
  have hms : ∀ (W : World) (q : Nat) (u : Value), Mod (fun k => k = b) W (W.setCell ⟨b, q, none⟩ u) := fun W q u => Mod.setCell (F := fun k => k = b) W (p := ⟨b, q, none⟩) rfl u
  exact ⟨((((((h.set 0 v0).set 1 v1).set 2 v2).set 3 v3).set 4 v4).set 5 v5).set 6 v6, ((((((hms W 0 v0).trans (hms _ 1 v1) (fun k hk => .inl hk)).trans (hms _ 2 v2) (fun k hk => .inl hk)).trans (hms _ 3 v3) (fun k hk => .inl hk)).trans (hms _ 4 v4) (fun k hk => .inl hk)).trans (hms _ 5 v5) (fun k hk => .inl hk)).trans (hms _ 6 v6) (fun k hk => .inl hk)⟩
section
variable {D F : Nat → Prop} {w w' : World} {t b : Nat} {vs : Nat → Value} {P : Nat → List RV} {S : St} {n : Int}
/-- what Take leaves: an error or a piece -/
def TakO (D F : Nat → Prop) (w : World) (t : Nat) (S : St) (i : Nat) (r : Rest) (rs : List Rest) (n : Int) (e : Ending) (w' : World) : Prop :=
  ∃ x, e = .returned (.tuple #[pcv (cut r (S.sn i) n) x, .bool true]) ∧ Mine w.heap.size w' x (cut r (S.sn i) n).d ∧ (∃ F', Cd D w' t (takeS S i r rs n) F' ∧ ∀ k, F' k → F k) ∧ Mod F w w'
theorem take_none0 {p : Option Addr} {q : Int} (hx : ∀ W, Below w.heap.size w W → Calls Try.prog 32 #[.pointer p] W fun e w' => e = .returned (.tuple #[.int .i64 q, .bool false]) ∧ Below W.heap.size W w') :
    Calls Try.prog 14 #[.pointer p, .int .i64 n] w fun e w' => e = .returned (.tuple #[zPv, .bool false]) ∧ Below w.heap.size w w' := by
  obtain ⟨W0, hW0⟩ : ∃ W0, W0 = w.alloc (.cells #[.int .u16 0, .int .u16 0, .int .u32 0, .bool false, .slice none 0 0, .bool false, .bool false] 44) := ⟨_, rfl⟩
  have hB0 : Below w.heap.size w W0 := by rw [hW0]; exact (Below.refl _ w).alloc (Nat.le_refl _) _
  have hz0 : Has W0 w.heap.size zP 44 := by rw [hW0]; exact Has.new w _ _
  have NX := hidden (hx W0 hB0)
  have HW0 := hidden hW0
  have HB0 := hidden hB0
  have HZ0 := hidden hz0
  clear hx hW0 hB0 hz0
  go_enter Try.func14, Try.ntmps14
  go_wp2_with fail
  rw [← HW0.out]
  refine Calls.mono NX.out ?_
  rintro e W1 ⟨rfl, hB1⟩
  have h4 := HZ0.out.later hB1
  have HZ1 := hidden h4
  have HB1 := hidden (HB0.out.trans (hB1.mono HB0.out.size))
  have l0 := h4.cell 0 rfl
  have t0 := h4.frozen 0
  have l1 := h4.cell 1 rfl
  have t1 := h4.frozen 1
  have l2 := h4.cell 2 rfl
  have t2 := h4.frozen 2
  have l3 := h4.cell 3 rfl
  have t3 := h4.frozen 3
  have l4 := h4.cell 4 rfl
  have t4 := h4.frozen 4
  have l5 := h4.cell 5 rfl
  have t5 := h4.frozen 5
  have l6 := h4.cell 6 rfl
  have t6 := h4.frozen 6
  simp only [zP] at l0 l1 l2 l3 l4 l5 l6
  clear h4 hB1
  go_wp2
  obtain ⟨s1, s2⟩ := seven HZ1.out (.int .u16 0) (.int .u16 0) (.int .u32 0) (.bool false) (.slice none 0 0) (.bool false) (.bool false)
  refine bodyPost_ret (results_row_tmp rfl _ _ w.heap.size _ _ rfl s1 Try.underlying44 rfl (by kernel_rfl)) rfl ⟨rfl, ?_⟩
  exact HB1.out.trans (s2.below (Nat.le_trans (Nat.le_refl _) HB1.out.size) (fun k hk => Nat.le_of_eq hk.symm))
theorem take_no {p : Option Addr} (h : Un w p) (n : Int) : Calls Try.prog 14 #[.pointer p, .int .i64 n] w fun e w' => e = .returned (.tuple #[zPv, .bool false]) ∧ Below w.heap.size w w' :=
  take_none0 (q := 0) (fun W hB => next_no (by
    rcases h with rfl | ⟨t, rfl, hc⟩
    · exact .inl rfl
    · exact .inr ⟨t, rfl, (hB.cell (p := ⟨t, 0, none⟩) (cell_lt hc)).trans hc⟩))
theorem take_none (h : No D w t b vs P S) (hg : Good S) (hx : nxt S = none) (n : Int) : Calls Try.prog 14 #[.pointer (some ⟨t, 0, none⟩), .int .i64 n] w fun e w' => e = .returned (.tuple #[zPv, .bool false]) ∧ Below w.heap.size w w' :=
  take_none0 (q := 0) (fun W hB => (next (h.later hB) hg).mono (by
    rintro e w' ⟨rfl, h2⟩
    refine ⟨?_, h2⟩
    unfold nxV
    rw [hx]
    rfl))
theorem take_low (h : No D w t b vs P S) (hg : Good S) {i : Nat} (hx : nxt S = some i) {n : Int} (hn : n < 1) : Calls Try.prog 14 #[.pointer (some ⟨t, 0, none⟩), .int .i64 n] w fun e w' => e = .returned (.tuple #[zPv, .bool false]) ∧ Below w.heap.size w w' := by
  obtain ⟨W0, hW0⟩ : ∃ W0, W0 = w.alloc (.cells #[.int .u16 0, .int .u16 0, .int .u32 0, .bool false, .slice none 0 0, .bool false, .bool false] 44) := ⟨_, rfl⟩
  have hB0 : Below w.heap.size w W0 := by rw [hW0]; exact (Below.refl _ w).alloc (Nat.le_refl _) _
  have hz0 : Has W0 w.heap.size zP 44 := by rw [hW0]; exact Has.new w _ _
  have hnv : nxV S = .tuple #[.int .i64 (i : Int), .bool true] := by unfold nxV; rw [hx]; rfl
  have nx0 := next (h.later hB0) hg
  rw [hnv] at nx0
  have NX := hidden nx0
  have HW0 := hidden hW0
  have HB0 := hidden hB0
  have HZ0 := hidden hz0
  clear hx hW0 hB0 hz0 h hg hnv nx0
  go_enter Try.func14, Try.ntmps14
  go_wp2_with fail
  rw [← HW0.out]
  refine Calls.mono NX.out ?_
  rintro e W1 ⟨rfl, hB1⟩
  have h4 := HZ0.out.later hB1
  have HZ1 := hidden h4
  have HB1 := hidden (HB0.out.trans (hB1.mono HB0.out.size))
  have l0 := h4.cell 0 rfl
  have t0 := h4.frozen 0
  have l1 := h4.cell 1 rfl
  have t1 := h4.frozen 1
  have l2 := h4.cell 2 rfl
  have t2 := h4.frozen 2
  have l3 := h4.cell 3 rfl
  have t3 := h4.frozen 3
  have l4 := h4.cell 4 rfl
  have t4 := h4.frozen 4
  have l5 := h4.cell 5 rfl
  have t5 := h4.frozen 5
  have l6 := h4.cell 6 rfl
  have t6 := h4.frozen 6
  simp only [zP] at l0 l1 l2 l3 l4 l5 l6
  clear h4 hB1
  go_wp2
  obtain ⟨s1, s2⟩ := seven HZ1.out (.int .u16 0) (.int .u16 0) (.int .u32 0) (.bool false) (.slice none 0 0) (.bool false) (.bool false)
  refine bodyPost_ret (results_row_tmp rfl _ _ w.heap.size _ _ rfl s1 Try.underlying44 rfl (by kernel_rfl)) rfl ⟨rfl, ?_⟩
  exact HB1.out.trans (s2.below (Nat.le_trans (Nat.le_refl _) HB1.out.size) (fun k hk => Nat.le_of_eq hk.symm))
set_option maxHeartbeats 1000000 in
theorem take_some (h : No D w t b vs P S) (hg : Good S) (hF : ∀ k, F k ↔ FC t b S.n vs k) {i : Nat} {r : Rest} {rs : List Rest} (hx : nxt S = some i) (hR : S.R i = r :: rs) {n : Int} (hn : 1 ≤ n) : Calls Try.prog 14 #[.pointer (some ⟨t, 0, none⟩), .int .i64 n] w fun e w' => TakO D F w t S i r rs n e w' := by
  obtain ⟨W0, hW0⟩ : ∃ W0, W0 = w.alloc (.cells #[.int .u16 0, .int .u16 0, .int .u32 0, .bool false, .slice none 0 0, .bool false, .bool false] 44) := ⟨_, rfl⟩
  have hB0 : Below w.heap.size w W0 := by rw [hW0]; exact (Below.refl _ w).alloc (Nat.le_refl _) _
  have hz0 : Has W0 w.heap.size zP 44 := by rw [hW0]; exact Has.new w _ _
  have hnv : nxV S = .tuple #[.int .i64 (i : Int), .bool true] := by unfold nxV; rw [hx]; rfl
  have nx0 := next (h.later hB0) hg
  rw [hnv] at nx0
  obtain ⟨hi, _⟩ := nxt_some hg.n1 hx
  have hgt := hg.take hx hR hn
  have NX := hidden nx0
  have HW0 := hidden hW0
  have HB0 := hidden hB0
  have HZ0 := hidden hz0
  have HN := hidden h
  have HG := hidden hg
  have HGT := hidden hgt
  have HR := hidden hR
  have HFF := hidden hF
  clear hx hW0 hB0 hz0 h hg hnv nx0 hgt hR hF
  go_enter Try.func14, Try.ntmps14
  go_wp2_with fail
  rw [← HW0.out]
  refine Calls.mono NX.out ?_
  rintro e W1 ⟨rfl, hB1⟩
  have hB01 := HB0.out.trans (hB1.mono HB0.out.size)
  have hN1 := HN.out.later hB01
  have HZ1 := hidden (HZ0.out.later hB1)
  have wlt : w.heap.size < W1.heap.size := HZ1.out.lt
  obtain ⟨cs, hc, hcs⟩ := hN1.ln
  have hpr := hN1.pr i hi
  rw [HR.out] at hpr
  obtain ⟨p, ps, hP, hpr1, hpr2⟩ : ∃ p ps, P i = p :: ps ∧ p.r = r ∧ ps.map (·.r) = rs := by
    cases hPi : P i with
    | nil => rw [hPi] at hpr; cases hpr
    | cons p ps => rw [hPi] at hpr; simp only [List.map_cons, List.cons.injEq] at hpr; exact ⟨p, ps, rfl, hpr.1, hpr.2⟩
  have hok : OkR i r := HG.out.ok i r hi (by rw [HR.out]; exact List.mem_cons_self ..)
  have hrw := hN1.rw_ i hi
  rw [hP] at hrw
  have TA := lane_take (D := D) hc (hcs i hi).1 (hcs i hi).2 (HG.out.sn i) hrw (hN1.by_ i p hi (by rw [hP]; exact List.mem_cons_self ..)) hn (by rw [hpr1]; exact hok.2.2.2.2.2.2.1)
  rw [hpr1] at TA
  have HTA := hidden TA
  have c0 := hN1.q.cell 0 rfl
  have HN1 := hidden hN1
  have HPS := hidden (And.intro hP hpr2)
  have HB01 := hidden hB01
  have HC := hidden (And.intro hc hcs)
  clear TA hN1 hc hcs hpr hP hpr1 hpr2 hok hrw hB1 hB01
  go_wp2_with fail
  refine Calls.mono HTA.out ?_
  rintro e W2 ⟨x, rfl, hx, htk⟩
  obtain ⟨v', ps', cs', k1, k2, k3, k4, ⟨k5, k6, k7, k8⟩, k9⟩ := htk
  have hN2 := HN1.out.turn hi k9 (v' := v') (s' := nx1 r (S.sn i)) (fun cs2 hc2 => by
    have e : cs2 = cs := by
      have e1 : W1.heap[b]? = some (.cells cs2 71 (0, 0)) := hc2
      have e2 : W1.heap[b]? = some (.cells cs 71 (0, 0)) := HC.out.1
      rw [e1] at e2
      cases e2
      rfl
    subst e
    exact ⟨cs', k5, k6, k7, k8⟩) k3 (fun q hq => by
      rcases List.mem_append.1 hq with hq | hq
      · exact (k2 q hq).1
      · refine (HN1.out.by_ i q hi (by rw [HPS.out.1]; exact List.mem_cons_of_mem _ hq)).stay k9 (fun k cur _ hh hf => hf.elim (fun e => by subst e; exact hh.ne HC.out.1 (by decide) rfl) (fun e => ?_))
        obtain ⟨cu, hu⟩ := (HN1.out.rw_ i hi).obj e
        exact hh.ne hu (by decide) rfl) (fun k hk => .inl (k4 k hk))
  rw [List.map_append, k1, HPS.out.2] at hN2
  have hnf : ∀ k, FC t b S.n (up vs i v') k → FC t b S.n vs k := by
    rintro k (rfl | rfl | ⟨j, hj, hk⟩)
    · exact .inl rfl
    · exact .inr (.inl rfl)
    · by_cases e : j = i
      · subst e
        rw [up_same] at hk
        exact .inr (.inr ⟨j, hj, k4 k hk⟩)
      · rw [up_ne _ _ e] at hk
        exact .inr (.inr ⟨j, hj, hk⟩)
  have hm02 : Mod (FC t b S.n vs) w W2 := (Mod.of_below HB01.out).trans k9 (fun k hk => .inl (hk.elim (fun e => .inr (.inl e)) (fun e => .inr (.inr ⟨i, hi, e⟩))))
  have hz2 : Has W2 w.heap.size zP 44 := k9.has HZ1.out (fun e => by
    have hlt := HN.out.fc_lt (k := w.heap.size) (e.elim (fun e => .inr (.inl e)) (fun e => .inr (.inr ⟨i, hi, e⟩)))
    omega)
  obtain ⟨xa, xc, hxe, _⟩ := hx.row
  obtain ⟨xl, hxl⟩ : ∃ xl, xl = (cut r (S.sn i) n).d.length := ⟨_, rfl⟩
  rw [← hxl] at hxe
  subst hxe
  obtain ⟨c, hcc⟩ : ∃ c, c = cut r (S.sn i) n := ⟨_, rfl⟩
  rw [← hcc] at hx hxl ⊢
  have hclen : c.d.length ≤ 65536 := by
    rw [hcc]
    have := HG.out.ok i r hi (by rw [HR.out]; exact List.mem_cons_self ..)
    unfold cut
    rw [List.length_take]
    have := this.2.2.2.2.2.2.2
    omega
  have HX := hidden hx
  have HXL := hidden hxl
  have HCC := hidden hcc
  have HN2 := hidden hN2
  have HNF := hidden hnf
  have HM02 := hidden hm02
  have HZ2 := hidden hz2
  have q1 := hN2.q.cell 1 rfl
  have q2 := hN2.q.cell 2 rfl
  have q4 := hN2.q.cell 4 rfl
  have q5 := hN2.q.cell 5 rfl
  have z1 := hN2.q.frozen 1
  have z2 := hN2.q.frozen 2
  have z4 := hN2.q.frozen 4
  have z5 := hN2.q.frozen 5
  have htl := hN2.q.lt
  have w2lt := hz2.lt
  clear hN2 hnf hm02 hz2 hx hcc k1 k2 k3 k4 k5 k6 k7 k8 k9
  obtain ⟨st, sn, pr, un, d, bg, en⟩ := c
  unfold pcv
  simp only at hclen hxl
  have hxb : xl ≤ 65536 := by rw [hxl]; exact hclen
  clear hxl hclen
  go_upto_region 5 with fail
  go_region
  obtain ⟨W3, hW3⟩ : ∃ W3, W3 = (((W2.setCell ⟨t, 1, none⟩ (.int .i64 (i : Int))).setCell ⟨t, 2, none⟩ (.bool (!en))).alloc (.cells #[.int .u16 st, .int .u16 sn, .int .u32 pr, .bool un, .slice xa xl xc, .bool bg, .bool en] 44)).drew := ⟨_, rfl⟩
  have hs2 : ((W2.setCell ⟨t, 1, none⟩ (.int .i64 (i : Int))).setCell ⟨t, 2, none⟩ (.bool (!en))).heap.size = W2.heap.size := by simp [World.setCell]
  have hbA : Below W2.heap.size ((W2.setCell ⟨t, 1, none⟩ (.int .i64 (i : Int))).setCell ⟨t, 2, none⟩ (.bool (!en))) W3 := by
    rw [hW3]; exact ((Below.refl _ _).alloc (Nat.le_of_eq hs2.symm) _).drew
  have hN3 := ((HN2.out.setQ (j := 1) (u := .int .i64 (i : Int)) (la := i) (bg := S.bgn) (wt := S.wt) (tk := S.tk) rfl).setQ (j := 2) (u := .bool (!en)) (la := i) (bg := !en) (wt := S.wt) (tk := S.tk) rfl).later (by rw [hs2]; exact hbA)
  have hbx3 : Has W3 W2.heap.size #[.int .u16 st, .int .u16 sn, .int .u32 pr, .bool un, .slice xa xl xc, .bool bg, .bool en] 44 := by
    have := Has.new ((W2.setCell ⟨t, 1, none⟩ (.int .i64 (i : Int))).setCell ⟨t, 2, none⟩ (.bool (!en))) #[.int .u16 st, .int .u16 sn, .int .u32 pr, .bool un, .slice xa xl xc, .bool bg, .bool en] 44
    rw [hs2] at this
    rw [hW3]; exact this
  have hm23 : Mod (fun k => k = t) W2 W3 := ((Mod.setCell (F := fun k => k = t) W2 (p := ⟨t, 1, none⟩) rfl _).trans (Mod.setCell (F := fun k => k = t) _ (p := ⟨t, 2, none⟩) rfl _) (fun k hk => .inl hk)).trans (Mod.of_below (F := fun k => False) (by rw [hs2]; exact hbA)) (fun k hk => hk.elim)
  rw [← hW3]
  have HBX3 := hidden hbx3
  have HN3 := hidden hN3
  have HM23 := hidden hm23
  have o4 := hbx3.cell 4 rfl
  have q4 := hN3.q.cell 4 rfl
  have z4 := hN3.q.frozen 4
  have htl := hN3.q.lt
  simp only at q4
  have b1 := HG.out.h
  have b2 := HG.out.w1
  have b3 := HG.out.t0
  have b4 := HG.out.l2
  have hw1 : IntKind.i64.wrap (S.wt - (xl : Int)) = S.wt - (xl : Int) := by rw [IntKind.wrap_i64]; omega
  have hw2 : IntKind.i64.wrap (S.tk + (xl : Int)) = S.tk + (xl : Int) := by rw [IntKind.wrap_i64]; omega
  clear hW3 hs2 hbA hN3 hbx3 hm23 q1 q2 q5 z1 z2 z5
  go_upto_region 6 with fail
  go_region
  obtain ⟨W4, hW4⟩ : ∃ W4, W4 = (W3.setCell ⟨t, 4, none⟩ (.int .i64 (S.wt - (xl : Int)))).drew := ⟨_, rfl⟩
  have hs3 : (W3.setCell ⟨t, 4, none⟩ (.int .i64 (S.wt - (xl : Int)))).heap.size = W3.heap.size := by simp [World.setCell]
  have hN4 : No D W4 t b (up vs i v') (up P i (ps' ++ ps)) ⟨S.n, S.lim, i, !en, up S.R i (left r (S.sn i) n ++ rs), up S.sn i (nx1 r (S.sn i)), S.wt - (xl : Int), S.tk⟩ := by
    rw [hW4]
    exact (HN3.out.setQ (j := 4) (u := .int .i64 (S.wt - (xl : Int))) (la := i) (bg := !en) (wt := S.wt - (xl : Int)) (tk := S.tk) rfl).same rfl
  have hnt : W2.heap.size ≠ t := by
    have := HM23.out.size
    intro e
    have h1 := HBX3.out
    rw [e] at h1
    exact h1.ne HN3.out.q (by decide) rfl
  have hbx4 : Has W4 W2.heap.size #[.int .u16 st, .int .u16 sn, .int .u32 pr, .bool un, .slice xa xl xc, .bool bg, .bool en] 44 := by
    rw [hW4]; exact HBX3.out.set_other (p := ⟨t, 4, none⟩) hnt _
  have hm34 : Mod (fun k => k = t) W3 W4 := by
    rw [hW4]; exact (Mod.setCell (F := fun k => k = t) W3 (p := ⟨t, 4, none⟩) rfl _).trans (Mod.drewN (fun k => False) _ 1) (fun k hk => hk.elim)
  rw [← hW4]
  have HBX4 := hidden hbx4
  have HN4 := hidden hN4
  have HM34 := hidden hm34
  have o4' := hbx4.cell 4 rfl
  have q5 := hN4.q.cell 5 rfl
  have z5 := hN4.q.frozen 5
  have htl4 := hN4.q.lt
  simp only at q5
  clear hW4 hs3 hN4 hbx4 hm34 q4 z4 o4 htl
  go_upto_region 7 with fail
  go_region
  obtain ⟨W5, hW5⟩ : ∃ W5, W5 = (W4.setCell ⟨t, 5, none⟩ (.int .i64 (S.tk + (xl : Int)))).drew := ⟨_, rfl⟩
  have hN5 : No D W5 t b (up vs i v') (up P i (ps' ++ ps)) ⟨S.n, S.lim, i, !en, up S.R i (left r (S.sn i) n ++ rs), up S.sn i (nx1 r (S.sn i)), S.wt - (xl : Int), S.tk + (xl : Int)⟩ := by
    rw [hW5]
    exact (HN4.out.setQ (j := 5) (u := .int .i64 (S.tk + (xl : Int))) (la := i) (bg := !en) (wt := S.wt - (xl : Int)) (tk := S.tk + (xl : Int)) rfl).same rfl
  have hbx5 : Has W5 W2.heap.size #[.int .u16 st, .int .u16 sn, .int .u32 pr, .bool un, .slice xa xl xc, .bool bg, .bool en] 44 := by
    rw [hW5]; exact HBX4.out.set_other (p := ⟨t, 5, none⟩) hnt _
  have hm45 : Mod (fun k => k = t) W4 W5 := by
    rw [hW5]; exact (Mod.setCell (F := fun k => k = t) W4 (p := ⟨t, 5, none⟩) rfl _).trans (Mod.drewN (fun k => False) _ 1) (fun k hk => hk.elim)
  have hm25 : Mod (fun k => k = t) W2 W5 := (HM23.out.trans HM34.out (fun k hk => .inl hk)).trans hm45 (fun k hk => .inl hk)
  have htw : t < w.heap.size := HN.out.q.lt
  have h4 : Has W5 w.heap.size zP 44 := hm25.has HZ2.out (by omega)
  rw [← hW5]
  have HN5 := hidden hN5
  have HM25 := hidden hm25
  have H4 := hidden h4
  have l0 := h4.cell 0 rfl
  have t0 := h4.frozen 0
  have o0 := hbx5.cell 0 rfl
  have l1 := h4.cell 1 rfl
  have t1 := h4.frozen 1
  have o1 := hbx5.cell 1 rfl
  have l2 := h4.cell 2 rfl
  have t2 := h4.frozen 2
  have o2 := hbx5.cell 2 rfl
  have l3 := h4.cell 3 rfl
  have t3 := h4.frozen 3
  have o3 := hbx5.cell 3 rfl
  have l4 := h4.cell 4 rfl
  have t4 := h4.frozen 4
  have o4 := hbx5.cell 4 rfl
  have l5 := h4.cell 5 rfl
  have t5 := h4.frozen 5
  have o5 := hbx5.cell 5 rfl
  have l6 := h4.cell 6 rfl
  have t6 := h4.frozen 6
  have o6 := hbx5.cell 6 rfl
  simp only [zP] at l0 l1 l2 l3 l4 l5 l6
  clear hW5 hN5 hbx5 hm45 hm25 h4 q5 z5 o4' htl4
  go_wp2
  obtain ⟨s1, s2⟩ := seven H4.out (.int .u16 st) (.int .u16 sn) (.int .u32 pr) (.bool un) (.slice xa xl xc) (.bool bg) (.bool en)
  refine bodyPost_ret (results_row_tmp rfl _ _ w.heap.size _ _ rfl s1 Try.underlying44 rfl (by kernel_rfl)) rfl ?_
  have hcc := HCC.out
  have hfin := HN5.out.stay s2 (fun k hk e => by have := HN.out.fc_lt (HNF.out k hk); omega) (fun k cur _ hh e => by
    subst e
    exact hh.ne H4.out (by decide) rfl)
  have hxlen : xl = d.length := HXL.out
  refine ⟨.slice xa xl xc, ?_, ?_, ⟨FC t b S.n (up vs i v'), ⟨HGT.out, b, up vs i v', up P i (ps' ++ ps), ?_, fun k => Iff.rfl⟩, fun k hk => (HFF.out k).2 (HNF.out k hk)⟩, ?_⟩
  · rw [← hcc]
    rfl
  · rw [← hcc]
    have hst := (HX.out.stay HM25.out (fun k hk e => by
      obtain ⟨cu, _, hle⟩ := HX.out.obj hk
      omega)).stay s2 (fun k hk e => by
      obtain ⟨cu, _, hle⟩ := HX.out.obj hk
      omega)
    exact hst.le (Nat.le_of_lt wlt)
  · have e1 : (!decide ((r.d.length : Int) ≤ n)) = !en := by
      have : en = (cut r (S.sn i) n).en := by rw [← hcc]
      rw [this]; rfl
    have e2 : (r.d.take n.toNat).length = xl := by
      have : d = (cut r (S.sn i) n).d := by rw [← hcc]
      rw [hxlen, this]; rfl
    unfold takeS
    rw [e1, e2]
    exact hfin
  · exact ((HM02.out.trans HM25.out (fun k hk => .inl (.inl hk))).trans s2 (fun k hk => .inr (Nat.le_of_eq hk.symm))).mono (fun k hk => (HFF.out k).2 hk)
end
end Go.Proofs.Ytfgoamfoddkafaa.Sq
