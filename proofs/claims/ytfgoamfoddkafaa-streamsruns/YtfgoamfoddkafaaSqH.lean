/-
  A piece is cut off the first rest of a lane.
  Conditions: the lane and its row lie in memory.
-/
import Derived.Test.YtfgoamfoddkafaaSqG
namespace Go.Proofs.Ytfgoamfoddkafaa.Sq
open Go.ChangeShapes Go.WideShapes Go.ChangeAt Go.RowKit
open Ba (hidden Has Only cell_lt heap_lt)
set_option linter.unusedVariables false

def pcv (c : Pc) (x : Value) : Value := .agg #[.int .u16 c.st, .int .u16 c.sn, .int .u32 c.pr, .bool c.un, x, .bool c.bg, .bool c.en]
theorem own_le {w : World} {base base' E s n : Nat} {v : Value} {xs : List Value} (h : w.ownsRow base E s v n xs) (hb : base' ≤ base) : w.ownsRow base' E s v n xs := by
  refine ⟨h.1, ?_⟩
  rcases h.2 with h0 | ⟨g, cap, cur, rfl, hg, r⟩
  · exact .inl h0
  · exact .inr ⟨g, cap, cur, rfl, Nat.le_trans hb hg, r⟩
theorem Mine.le {base base' : Nat} {w : World} {v : Value} {zs : List Int} (h : Mine base w v zs) (hb : base' ≤ base) : Mine base' w v zs := ⟨own_le h.1 hb, h.2⟩
/-- what a take leaves of a lane -/
def Tk (D : Nat → Prop) (w : World) (b o : Nat) (cs : Array Value) (v : Value) (s : Int) (r : Rest) (ps : List RV) (n : Int) (W : World) : Prop :=
  ∃ v' ps' cs', ps'.map (·.r) = left r s n ∧ (∀ q ∈ ps', By D W q.v q.r.d ∧ ∀ k, q.v.ownBlock = some k → k < w.heap.size) ∧ Rw W v' (ps' ++ ps) ∧ (∀ k, v'.ownBlock = some k → v.ownBlock = some k) ∧
    (Has W b cs' 71 ∧ cs'[o]? = some v' ∧ cs'[o + 1]? = some (.int .u16 (nx1 r s)) ∧ ∀ j, j ≠ o → j ≠ o + 1 → cs'[j]? = cs[j]?) ∧ Mod (fun k => k = b ∨ v.ownBlock = some k) w W
theorem By.block {D : Nat → Prop} {w : World} {v : Value} {zs : List Int} (h : By D w v zs) : ∃ k cur, v.ownBlock = some k ∧ Has w k cur 5 := by
  obtain ⟨g, off, cap, cur, rfl, hd, hh, _⟩ := h
  exact ⟨g, cur, rfl, hh⟩
theorem By.stay1 {D F : Nat → Prop} {w w' : World} {v : Value} {zs : List Int} (h : By D w v zs) (hm : Mod F w w') (hF : ∀ k, v.ownBlock = some k → ¬ F k) : By D w' v zs := by
  obtain ⟨g, off, cap, cur, rfl, hd, hh, r⟩ := h
  exact ⟨g, off, cap, cur, rfl, hd, hm.has hh (hF g rfl), r⟩
theorem Tk.on {D : Nat → Prop} {w : World} {b o : Nat} {cs : Array Value} {v : Value} {s : Int} {r : Rest} {ps : List RV} {n : Int} {W W' : World} (h : Tk D w b o cs v s r ps n W) (hm : Mod (fun k => w.heap.size ≤ k) W W') (hb : b < w.heap.size) (hv : ∀ k, v.ownBlock = some k → k < w.heap.size) : Tk D w b o cs v s r ps n W' := by
  obtain ⟨v', ps', cs', h1, h2, h3, h4, ⟨h5, h6⟩, h7⟩ := h
  refine ⟨v', ps', cs', h1, fun q hq => ⟨(h2 q hq).1.stay1 hm (fun k hk hf => by have := (h2 q hq).2 k hk; omega), (h2 q hq).2⟩, h3.stay hm (fun k hk hf => by have := hv k (h4 k hk); omega), h4, ⟨hm.has h5 (by omega), h6⟩, h7.trans hm (fun k hk => .inr hk)⟩
/-- behind the numbering -/
structure N1 (w : World) (b o : Nat) (cs : Array Value) (v : Value) (s : Int) (r : Rest) (g r0 : Nat) (cur : Array Value) (W1 : World) (cs1 cur1 : Array Value) : Prop where
  c : Has W1 b cs1 71
  c0 : cs1[o]? = some v
  c1 : cs1[o + 1]? = some (.int .u16 (nx1 r s))
  c2 : ∀ j, j ≠ o → j ≠ o + 1 → cs1[j]? = cs[j]?
  gh : Has W1 g cur1 44
  g0 : cur1.size = cur.size
  g1 : cur1[r0 + 1]? = some (.int .u16 (nsn r s))
  g2 : ∀ j, j ≠ r0 + 1 → cur1[j]? = cur[j]?
  z : Has W1 w.heap.size zP 44
  m : Mod (fun k => k = b ∨ k = g) w W1
section
variable {D : Nat → Prop} {w W1 : World} {b o g r0 m cap : Nat} {cs cur cs1 cur1 : Array Value} {v : Value} {s n : Int} {p : RV} {ps : List RV}
theorem N1.same (hc : Has w b cs 71) (hv : cs[o]? = some v) (hs : cs[o + 1]? = some (.int .u16 s)) (hh : Has w g cur 44) (h1 : cur[r0 + 1]? = some (.int .u16 p.r.sn)) (hn : (p.r.bg && !p.r.un) = false) : N1 w b o cs v s p.r g r0 cur (w.alloc (.cells zP 44)) cs cur := by
  have hB : Below w.heap.size w (w.alloc (.cells zP 44)) := (Below.refl _ w).alloc (Nat.le_refl _) _
  refine ⟨hc.later hB, hv, ?_, fun _ _ _ => rfl, hh.later hB, rfl, ?_, fun _ _ => rfl, Has.new w _ _, Mod.of_below hB⟩
  · unfold nx1; rw [hn]; exact hs
  · unfold nsn; rw [hn]; exact h1
theorem N1.numb {W0 : World} (hW0 : W0 = w.alloc (.cells zP 44)) (hc : Has w b cs 71) (hv : cs[o]? = some v) (hs : cs[o + 1]? = some (.int .u16 s)) (hh : Has w g cur 44) (h1 : cur[r0 + 1]? = some (.int .u16 p.r.sn)) (hn : (p.r.bg && !p.r.un) = true)
    (k1 : Has W1 g (cur.setIfInBounds (r0 + 1) (.int .u16 s)) 44) (k2 : Has W1 b (cs.setIfInBounds (o + 1) (.int .u16 ((s + 1) % 65536))) 71) (k3 : Mod (fun k => k = b ∨ k = g) W0 W1) : N1 w b o cs v s p.r g r0 cur W1 (cs.setIfInBounds (o + 1) (.int .u16 ((s + 1) % 65536))) (cur.setIfInBounds (r0 + 1) (.int .u16 s)) := by
  subst hW0
  have hB : Below w.heap.size w (w.alloc (.cells zP 44)) := (Below.refl _ w).alloc (Nat.le_refl _) _
  have l1 := (Array.getElem?_eq_some_iff.1 hs).1
  have l2 := (Array.getElem?_eq_some_iff.1 h1).1
  refine ⟨k2, ?_, ?_, fun j e1 e2 => ?_, k1, by simp, ?_, fun j e => ?_, k3.has (Has.new w _ _) (fun e => ?_), (Mod.of_below hB).trans k3 (fun k hk => .inl hk)⟩
  · rw [Array.getElem?_setIfInBounds, if_neg (by omega)]; exact hv
  · unfold nx1; rw [hn, Array.getElem?_setIfInBounds, if_pos rfl, if_pos l1]; rfl
  · rw [Array.getElem?_setIfInBounds, if_neg (by omega)]
  · unfold nsn; rw [hn, Array.getElem?_setIfInBounds, if_pos rfl, if_pos l2]; rfl
  · rw [Array.getElem?_setIfInBounds, if_neg (by omega)]
  · have := hc.lt
    have := hh.lt
    omega
/-- the row behind the first rest's turn -/
theorem row_turn {off : Nat} {W2 : World} {cur2 : Array Value} (p' : RV) (hv : v = .slice (some ⟨g, off * 7, none⟩) (ps.length + 1) cap) (hh : Has W2 g cur2 44) (h1 : ps.length + 1 ≤ cap) (h2 : (off + cap) * 7 = cur2.size) (h3 : cap ≤ 9223372036854775807)
    (hp : ∀ j, j < 7 → cur2[off * 7 + j]? = (pc p')[j]?) (hq : ∀ j u, (pcs ps)[j]? = some u → cur2[off * 7 + 7 + j]? = some u) : Rw W2 v (p' :: ps) := by
  refine .inr ⟨g, off, cap, cur2, hv, by simp, hh, h1, h2, h3, fun j u hj => ?_⟩
  have ep : pcs (p' :: ps) = pc p' ++ pcs ps := by unfold pcs; rw [List.flatMap_cons]
  rw [ep] at hj
  by_cases hlt : j < 7
  · rw [List.getElem?_append_left (by rw [pc_len]; exact hlt)] at hj
    rw [hp j hlt]; exact hj
  · rw [List.getElem?_append_right (by rw [pc_len]; omega), pc_len] at hj
    have := hq _ u hj
    rwa [show off * 7 + 7 + (j - 7) = off * 7 + j by omega] at this
theorem row_drop {off : Nat} {W2 : World} {cur2 : Array Value} (hh : Has W2 g cur2 44) (h1 : ps.length + 1 ≤ cap) (h2 : (off + cap) * 7 = cur2.size) (h3 : cap ≤ 9223372036854775807)
    (hq : ∀ j u, (pcs ps)[j]? = some u → cur2[off * 7 + 7 + j]? = some u) : Rw W2 (if ps.length = 0 then .slice none 0 0 else .slice (some ⟨g, off * 7 + 7, none⟩) ps.length (cap - 1)) ps := by
  by_cases h0 : ps.length = 0
  · rw [if_pos h0]
    exact .inl ⟨rfl, List.eq_nil_of_length_eq_zero h0⟩
  · rw [if_neg h0]
    refine .inr ⟨g, off + 1, cap - 1, cur2, by rw [Nat.add_mul], by omega, hh, by omega, by omega, by omega, fun j u hj => ?_⟩
    have := hq j u hj
    rwa [show (off + 1) * 7 + j = off * 7 + 7 + j by omega]
end
set_option maxHeartbeats 1000000 in
theorem take_0c {D : Nat → Prop} {w : World} {b o g off cap : Nat} {cs cur : Array Value} {s n : Int} {p : RV} {ps : List RV} (hc : Has w b cs 71) (hv : cs[o]? = some (.slice (some ⟨g, off * 7, none⟩) (ps.length + 1) cap)) (hs : cs[o + 1]? = some (.int .u16 s)) (hsr : 0 ≤ s ∧ s < 65536)
    (hh : Has w g cur 44) (h1 : ps.length + 1 ≤ cap) (h2 : (off + cap) * 7 = cur.size) (h3 : cap ≤ 9223372036854775807) (hcell : ∀ j u, (pcs (p :: ps))[j]? = some u → cur[off * 7 + j]? = some u) (hby : By D w p.v p.r.d) (hn : 1 ≤ n) (hd : 1 ≤ p.r.d.length) (hb : p.r.bg = false) (hl : ¬ (p.r.d.length : Int) ≤ n) :
    Calls Try.prog 33 #[.pointer (some ⟨b, o, none⟩), .int .i64 n] w fun e w' => ∃ x, e = .returned (pcv (cut p.r s n) x) ∧ Mine w.heap.size w' x (cut p.r s n).d ∧ Tk D w b o cs (.slice (some ⟨g, off * 7, none⟩) (ps.length + 1) cap) s p.r ps n w' := by
  obtain ⟨r0, hr0⟩ : ∃ r0, r0 = off * 7 := ⟨_, rfl⟩
  have hrow : ∀ j, j < 7 → cur[r0 + j]? = (pc p)[j]? := fun j hj => by
    rw [hr0, List.getElem?_eq_getElem (by rw [pc_len]; exact hj)]
    refine hcell j _ ?_
    show (pc p ++ pcs ps)[j]? = _
    rw [List.getElem?_append_left (by rw [pc_len]; exact hj), List.getElem?_eq_getElem]
  have hrest : ∀ j u, (pcs ps)[j]? = some u → cur[r0 + 7 + j]? = some u := fun j u hj => by
    rw [hr0, Nat.add_assoc]
    refine hcell (7 + j) u ?_
    show (pc p ++ pcs ps)[7 + j]? = _
    rw [List.getElem?_append_right (by rw [pc_len]; omega), pc_len, show 7 + j - 7 = j by omega]
    exact hj
  have hs1 := hrow 1 (by decide)
  have hs3 := hrow 3 (by decide)
  have hsz : r0 + 7 ≤ cur.size := by omega
  obtain ⟨W0, hW0⟩ : ∃ W0, W0 = w.alloc (.cells zP 44) := ⟨_, rfl⟩
  have hB0 : Below w.heap.size w W0 := by rw [hW0]; exact (Below.refl _ w).alloc (Nat.le_refl _) _
  have HW0 : Hid (W0 = w.alloc (.cells #[.int .u16 0, .int .u16 0, .int .u32 0, .bool false, .slice none 0 0, .bool false, .bool false] 44)) := hW0
  have hblt := hc.lt
  have hglt := hh.lt
  have e0 := (hh.later hB0).cell (r0 + 5) (hrow 5 (by decide))
  have wlt : w.heap.size < W0.heap.size := by rw [hW0]; simp
  have e1 := (hc.later hB0).cell o hv
  rw [← hr0] at hv e1
  have HC := hidden (And.intro hc (And.intro hv hs))
  have HH := hidden hh
  have HBY := hidden hby
  have HRR := hidden (And.intro hrow hrest)
  have HSZ := hidden (And.intro h1 (And.intro h2 (And.intro h3 hsz)))
  have HR0 := hidden hr0
  have HB0 := hidden hB0
  have HW := hidden hW0
  have HDL := hidden hd
  have HN1 : Hid (N1 w b o cs (.slice (some ⟨g, r0, none⟩) (ps.length + 1) cap) s p.r g r0 cur W0 cs cur) := by rw [hW0]; exact N1.same hc hv hs hh hs1 (by rw [hb]; rfl)
  clear hc hs hh h1 h2 h3 hcell hby hrow hrest hs1 hs3 hsz hW0 hB0 hr0 hd hv
  rw [← HR0.out]
  obtain ⟨k, rfl⟩ : ∃ k : Nat, n = k := ⟨n.toNat, by omega⟩
  obtain ⟨⟨st, sn, pr, un, d, bg⟩, dv⟩ := p
  simp only at hb hl
  subst hb
  obtain ⟨dg, doff, dcap, hdv, hdD, hdlt, hdl, hdc, hdr⟩ := HBY.out.row
  simp only at hdv hdl hdr
  subst hdv
  obtain ⟨m, hm⟩ : ∃ m, m = ps.length := ⟨_, rfl⟩
  rw [← hm] at e1 HN1 ⊢
  have HM := hidden hm
  obtain ⟨dl, hdl0⟩ : ∃ dl, dl = d.length := ⟨_, rfl⟩
  rw [← hdl0] at hl hdl hdr
  have HDE := hidden hdl0
  have HDR := hidden hdr
  have HDD := hidden hdD
  clear hm hdl0 hdr hdD
  go_enter Try.func33, Try.ntmps33
  go_upto_region 1 with fail
  rw [← HW0.out]
  go_upto_region 4 with fail
  obtain ⟨W1, cs1, cur1, hWW, HN⟩ : ∃ W1 cs1 cur1, W1 = W0 ∧ Hid (N1 w b o cs (.slice (some ⟨g, r0, none⟩) (m + 1) cap) s ⟨st, sn, pr, un, d, false⟩ g r0 cur W1 cs1 cur1) := ⟨W0, cs, cur, rfl, HN1.out⟩
  rw [← hWW]
  have wlt : w.heap.size < W1.heap.size := by rw [hWW]; exact wlt
  clear HN1 e0 e1 hWW
  have n1 := HN.out
  obtain ⟨SN, hSN⟩ : ∃ SN, SN = nsn (⟨st, sn, pr, un, d, false⟩ : Rest) s := ⟨_, rfl⟩
  have a0 : W1.cell? ⟨g, r0, none⟩ = some (.int .u16 st) := n1.gh.cell _ ((n1.g2 (r0 + 0) (by omega)).trans (HRR.out.1 0 (by decide)))
  have a1 : W1.cell? ⟨g, r0 + 1, none⟩ = some (.int .u16 SN) := by rw [hSN]; exact n1.gh.cell _ n1.g1
  have a2 : W1.cell? ⟨g, r0 + 2, none⟩ = some (.int .u32 pr) := n1.gh.cell _ ((n1.g2 (r0 + 2) (by omega)).trans (HRR.out.1 2 (by decide)))
  have a3 : W1.cell? ⟨g, r0 + 3, none⟩ = some (.bool un) := n1.gh.cell _ ((n1.g2 (r0 + 3) (by omega)).trans (HRR.out.1 3 (by decide)))
  have a4 : W1.cell? ⟨g, r0 + 4, none⟩ = some (.slice (some ⟨dg, doff, none⟩) dl dcap) := by rw [HDE.out]; exact n1.gh.cell _ ((n1.g2 (r0 + 4) (by omega)).trans (HRR.out.1 4 (by decide)))
  have a5 : W1.cell? ⟨g, r0 + 5, none⟩ = some (.bool false) := n1.gh.cell _ ((n1.g2 (r0 + 5) (by omega)).trans (HRR.out.1 5 (by decide)))
  have a6 : W1.cell? ⟨g, r0 + 6, none⟩ = some (.bool true) := n1.gh.cell _ ((n1.g2 (r0 + 6) (by omega)).trans (HRR.out.1 6 (by decide)))
  have y4 := n1.gh.frozen (r0 + 4)
  have y5 := n1.gh.frozen (r0 + 5)
  have g1lt := n1.gh.lt
  have b1lt := n1.c.lt
  have HSN := hidden hSN
  clear hSN
  obtain ⟨W2, hW2⟩ : ∃ W2, W2 = ((W1.setCell ⟨g, r0 + 4, none⟩ (.slice (some ⟨dg, doff + k, none⟩) (dl - k) (dcap - k))).setCell ⟨g, r0 + 5, none⟩ (.bool false)).alloc (.cells #[.int .u16 st, .int .u16 SN, .int .u32 pr, .bool un, .slice (some ⟨dg, doff, none⟩) k dcap, .bool false, .bool false] 44) := ⟨_, rfl⟩
  have hM2 : Mod (fun k => k = b ∨ k = g) w W2 := by
    rw [hW2]
    exact ((n1.m.trans (Mod.setCell (F := fun k => k = b ∨ k = g) W1 (p := ⟨g, r0 + 4, none⟩) (.inr rfl) _) (fun k hk => .inl hk)).trans (Mod.setCell (F := fun k => k = b ∨ k = g) _ (p := ⟨g, r0 + 5, none⟩) (.inr rfl) _) (fun k hk => .inl hk)).trans (Mod.of_below (F := fun _ => False) ((Below.refl _ _).alloc (Nat.le_refl _) _)) (fun k hk => hk.elim)
  have hs2 : ((W1.setCell ⟨g, r0 + 4, none⟩ (.slice (some ⟨dg, doff + k, none⟩) (dl - k) (dcap - k))).setCell ⟨g, r0 + 5, none⟩ (.bool false)).heap.size = W1.heap.size := by simp [World.setCell]
  have hbelA : Below W1.heap.size ((W1.setCell ⟨g, r0 + 4, none⟩ (.slice (some ⟨dg, doff + k, none⟩) (dl - k) (dcap - k))).setCell ⟨g, r0 + 5, none⟩ (.bool false)) W2 := by
    rw [hW2]; exact (Below.refl _ _).alloc (Nat.le_of_eq hs2.symm) _
  have hbx : Has W2 W1.heap.size #[.int .u16 st, .int .u16 SN, .int .u32 pr, .bool un, .slice (some ⟨dg, doff, none⟩) k dcap, .bool false, .bool false] 44 := by
    have := Has.new ((W1.setCell ⟨g, r0 + 4, none⟩ (.slice (some ⟨dg, doff + k, none⟩) (dl - k) (dcap - k))).setCell ⟨g, r0 + 5, none⟩ (.bool false)) #[.int .u16 st, .int .u16 SN, .int .u32 pr, .bool un, .slice (some ⟨dg, doff, none⟩) k dcap, .bool false, .bool false] 44
    rw [hs2, ← hW2] at this
    exact this
  have hgz : w.heap.size ≠ g := by omega
  have hz2 : Has W2 w.heap.size zP 44 := by
    have z1 := (n1.z.set_other (p := ⟨g, r0 + 4, none⟩) hgz (.slice (some ⟨dg, doff + k, none⟩) (dl - k) (dcap - k))).set_other (p := ⟨g, r0 + 5, none⟩) hgz (.bool false)
    exact (hbelA.block _ (by omega)).trans z1
  have hgb : b ≠ g := fun e => by subst e; exact n1.c.ne n1.gh (by decide) rfl
  have hc2 : Has W2 b cs1 71 := by
    have z1 := (n1.c.set_other (p := ⟨g, r0 + 4, none⟩) hgb (.slice (some ⟨dg, doff + k, none⟩) (dl - k) (dcap - k))).set_other (p := ⟨g, r0 + 5, none⟩) hgb (.bool false)
    exact (hbelA.block _ b1lt).trans z1
  have hg2 : Has W2 g ((cur1.setIfInBounds (r0 + 4) (.slice (some ⟨dg, doff + k, none⟩) (dl - k) (dcap - k))).setIfInBounds (r0 + 5) (.bool false)) 44 := by
    have z1 := (n1.gh.set (r0 + 4) (.slice (some ⟨dg, doff + k, none⟩) (dl - k) (dcap - k))).set (r0 + 5) (.bool false)
    exact (hbelA.block _ g1lt).trans z1
  have hnd : ∀ x : Nat, (x = b ∨ x = g) → ¬ (∃ cu, Has w x cu 5) := by
    rintro x (rfl | rfl) ⟨cu, hcu⟩
    · exact hcu.ne HC.out.1 (by decide) rfl
    · exact hcu.ne HH.out (by decide) rfl
  have hby2 : By D W2 (.slice (some ⟨dg, doff, none⟩) dl dcap) d := by
    obtain ⟨kk, cu, hk1, hk2⟩ := HBY.out.block
    have := HBY.out.stay1 hM2 (fun k hk hf => hnd k hf ⟨cu, by rw [hk] at hk1; cases hk1; exact hk2⟩)
    rw [HDE.out]; exact this
  have hrow2 : Row W2 (some ⟨dg, doff, none⟩) k (d.take k) := by
    obtain ⟨g', o', c', e', _, _, _, _, hr'⟩ := hby2.row
    cases e'
    rw [← HDE.out] at hr'
    exact hr'.take k (by omega)
  have CL := hidden (clone (cap := dcap) hrow2 (by omega))
  have HTK : Hid (Tk D w b o cs (.slice (some ⟨g, r0, none⟩) (m + 1) cap) s ⟨st, sn, pr, un, d, false⟩ ps (k : Int) W2) := by
    obtain ⟨q1, q2, q3, q4⟩ := HSZ.out
    have hsz1 := n1.g0
    refine ⟨_, [⟨⟨st, SN, pr, un, d.drop k, false⟩, .slice (some ⟨dg, doff + k, none⟩) (dl - k) (dcap - k)⟩], cs1, ?_, ?_, ?_, fun _ h => h, ⟨hc2, n1.c0, n1.c1, n1.c2⟩, hM2.mono (fun k hk => hk.imp id (fun e => by rw [e]; rfl))⟩
    · rw [left_some (by rw [← HDE.out]; omega), HSN.out]
      simp
    · intro q hq
      rw [List.mem_singleton] at hq
      subst hq
      refine ⟨?_, fun kk hk => ?_⟩
      · have := By.drop (zs := d) (by rw [← HDE.out]; exact hby2) k (by rw [← HDE.out]; omega)
        rw [← HDE.out] at this
        exact this
      · cases hk; exact hdlt
    · refine row_turn (off := off) _ (by rw [HM.out, HR0.out]; rfl) hg2 q1 (by simp; omega) q3 (fun j hj => ?_) (fun j u hj => ?_)
      · rw [← HR0.out]
        have hl1 : r0 + 7 ≤ cur1.size := by omega
        rcases (show j = 0 ∨ j = 1 ∨ j = 2 ∨ j = 3 ∨ j = 4 ∨ j = 5 ∨ j = 6 by omega) with rfl | rfl | rfl | rfl | rfl | rfl | rfl
        · rw [Array.getElem?_setIfInBounds, if_neg (by omega), Array.getElem?_setIfInBounds, if_neg (by omega), n1.g2 _ (by omega)]; exact HRR.out.1 0 (by decide)
        · rw [Array.getElem?_setIfInBounds, if_neg (by omega), Array.getElem?_setIfInBounds, if_neg (by omega), n1.g1, ← HSN.out]; rfl
        · rw [Array.getElem?_setIfInBounds, if_neg (by omega), Array.getElem?_setIfInBounds, if_neg (by omega), n1.g2 _ (by omega)]; exact HRR.out.1 2 (by decide)
        · rw [Array.getElem?_setIfInBounds, if_neg (by omega), Array.getElem?_setIfInBounds, if_neg (by omega), n1.g2 _ (by omega)]; exact HRR.out.1 3 (by decide)
        · rw [Array.getElem?_setIfInBounds, if_neg (by omega), Array.getElem?_setIfInBounds, if_pos rfl, if_pos (by omega)]; rfl
        · rw [Array.getElem?_setIfInBounds, if_pos rfl, if_pos (by simp; omega)]; rfl
        · rw [Array.getElem?_setIfInBounds, if_neg (by omega), Array.getElem?_setIfInBounds, if_neg (by omega), n1.g2 _ (by omega)]; exact HRR.out.1 6 (by decide)
      · rw [← HR0.out, Array.getElem?_setIfInBounds, if_neg (by omega), Array.getElem?_setIfInBounds, if_neg (by omega), n1.g2 _ (by omega)]
        exact HRR.out.2 j u hj
  have HW2 := hidden hW2
  have HBX := hidden hbx
  have HZ2 := hidden hz2
  have HS2 : Hid (W1.heap.size < W2.heap.size) := hbx.lt
  clear hW2 hbx hz2 hc2 hg2 hby2 hrow2 hM2 hbelA n1 hnd hs2
  go_wp2_with fail
  rw [← HW2.out]
  refine Calls.mono CL.out ?_
  rintro e W3 ⟨x, rfl, hx, hB3⟩
  obtain ⟨xa, xc, hxe, _⟩ := hx.row
  obtain ⟨xl, hxl⟩ : ∃ xl, xl = (d.take k).length := ⟨_, rfl⟩
  rw [← hxl] at hxe
  subst hxe
  have b6 := (HBX.out.later hB3)
  have z6 := (HZ2.out.later hB3)
  have hne46 : w.heap.size ≠ W1.heap.size := by omega
  obtain ⟨W4, hW4⟩ : ∃ W4, W4 = W3.setCell ⟨W1.heap.size, 4, none⟩ (.slice xa xl xc) := ⟨_, rfl⟩
  have h6 : Has W4 W1.heap.size #[.int .u16 st, .int .u16 SN, .int .u32 pr, .bool un, .slice xa xl xc, .bool false, .bool false] 44 := by rw [hW4]; exact b6.set 4 _
  have h4 : Has W4 w.heap.size zP 44 := by rw [hW4]; exact z6.set_other (p := ⟨W1.heap.size, 4, none⟩) hne46 _
  have hM4 : Mod (fun k => w.heap.size ≤ k) W2 W4 := by rw [hW4]; exact (Mod.of_below hB3).trans (Mod.setCell (F := fun k => w.heap.size ≤ k) W3 (p := ⟨W1.heap.size, 4, none⟩) (Nat.le_of_lt wlt) _) (fun k hk => .inl hk)
  have hX4 : Mine W2.heap.size W4 (.slice xa xl xc) (d.take k) := by
    rw [hW4]
    refine hx.stay (Mod.setCell (F := fun k => k = W1.heap.size) W3 (p := ⟨W1.heap.size, 4, none⟩) rfl _) (fun k hk e => ?_)
    obtain ⟨cu, _, hle⟩ := hx.obj hk
    have := HS2.out
    omega
  have i6 := b6.cell 4 rfl
  have j6 := b6.frozen 4
  have HW4 := hidden hW4
  have HF4 := hidden (And.intro hM4 (And.intro hX4 hxl))
  have H4 := hidden h4
  clear hW4 hM4 hX4 hxl hx hB3 b6 z6
  go_upto_region 10 with fail
  rw [← HW4.out]
  have o0 := h6.cell 0 rfl
  have l0 := h4.cell 0 rfl
  have t0 := h4.frozen 0
  have o1 := h6.cell 1 rfl
  have l1 := h4.cell 1 rfl
  have t1 := h4.frozen 1
  have o2 := h6.cell 2 rfl
  have l2 := h4.cell 2 rfl
  have t2 := h4.frozen 2
  have o3 := h6.cell 3 rfl
  have l3 := h4.cell 3 rfl
  have t3 := h4.frozen 3
  have o4 := h6.cell 4 rfl
  have l4 := h4.cell 4 rfl
  have t4 := h4.frozen 4
  have o5 := h6.cell 5 rfl
  have l5 := h4.cell 5 rfl
  have t5 := h4.frozen 5
  have o6 := h6.cell 6 rfl
  have l6 := h4.cell 6 rfl
  have t6 := h4.frozen 6
  clear h6 h4 i6 j6
  simp only [zP] at l0 l1 l2 l3 l4 l5 l6
  go_wp2
  have hfin := ((((((H4.out.set 0 (.int .u16 st)).set 1 (.int .u16 SN)).set 2 (.int .u32 pr)).set 3 (.bool un)).set 4 (.slice xa xl xc)).set 5 (.bool false)).set 6 (.bool false)
  refine bodyPost_ret (results_cell_row rfl _ _ w.heap.size 44 #[.int .u16 st, .int .u16 SN, .int .u32 pr, .bool un, .slice xa xl xc, .bool false, .bool false] (0, 0) _ rfl hfin Try.underlying44 rfl (by kernel_rfl)) rfl ?_
  obtain ⟨hM4, hX4, hxl⟩ := HF4.out
  have hms : ∀ (W : World) (q : Nat) (u : Value), Mod (fun k => k = w.heap.size) W (W.setCell ⟨w.heap.size, q, none⟩ u) := fun W q u => Mod.setCell (F := fun k => k = w.heap.size) W (p := ⟨w.heap.size, q, none⟩) rfl u
  have hmf := ((((((hms W4 0 (.int .u16 st)).trans (hms _ 1 (.int .u16 SN)) (fun k hk => .inl hk)).trans (hms _ 2 (.int .u32 pr)) (fun k hk => .inl hk)).trans (hms _ 3 (.bool un)) (fun k hk => .inl hk)).trans (hms _ 4 (.slice xa xl xc)) (fun k hk => .inl hk)).trans (hms _ 5 (.bool false)) (fun k hk => .inl hk)).trans (hms _ 6 (.bool false)) (fun k hk => .inl hk)
  refine ⟨.slice xa xl xc, ?_, ?_, ?_⟩
  · rw [HSN.out]
    unfold pcv cut
    simp only [HDE.out.symm]
    simp
    try omega
  · have hst := hX4.stay hmf (fun k hk e => by
      obtain ⟨cu, _, hle⟩ := hX4.obj hk
      have := HS2.out
      omega)
    have := hst.le (base' := w.heap.size) (by have := HS2.out; omega)
    have ecut : (cut (⟨st, sn, pr, un, d, false⟩ : Rest) s (k : Int)).d = (d.take k) := by
      unfold cut
      simp
    rw [ecut]
    exact this
  · exact HTK.out.on ((hM4.trans hmf (fun k hk => .inl (Nat.le_of_eq hk.symm)))) hblt (fun k hk => by cases hk; exact hglt)
set_option maxHeartbeats 1000000 in
theorem take_0a {D : Nat → Prop} {w : World} {b o g off cap : Nat} {cs cur : Array Value} {s n : Int} {p : RV} {ps : List RV} (hc : Has w b cs 71) (hv : cs[o]? = some (.slice (some ⟨g, off * 7, none⟩) (ps.length + 1) cap)) (hs : cs[o + 1]? = some (.int .u16 s)) (hsr : 0 ≤ s ∧ s < 65536)
    (hh : Has w g cur 44) (h1 : ps.length + 1 ≤ cap) (h2 : (off + cap) * 7 = cur.size) (h3 : cap ≤ 9223372036854775807) (hcell : ∀ j u, (pcs (p :: ps))[j]? = some u → cur[off * 7 + j]? = some u) (hby : By D w p.v p.r.d) (hn : 1 ≤ n) (hd : 1 ≤ p.r.d.length) (hb : p.r.bg = false) (hl : (p.r.d.length : Int) ≤ n) :
    Calls Try.prog 33 #[.pointer (some ⟨b, o, none⟩), .int .i64 n] w fun e w' => ∃ x, e = .returned (pcv (cut p.r s n) x) ∧ Mine w.heap.size w' x (cut p.r s n).d ∧ Tk D w b o cs (.slice (some ⟨g, off * 7, none⟩) (ps.length + 1) cap) s p.r ps n w' := by
  obtain ⟨r0, hr0⟩ : ∃ r0, r0 = off * 7 := ⟨_, rfl⟩
  have hrow : ∀ j, j < 7 → cur[r0 + j]? = (pc p)[j]? := fun j hj => by
    rw [hr0, List.getElem?_eq_getElem (by rw [pc_len]; exact hj)]
    refine hcell j _ ?_
    show (pc p ++ pcs ps)[j]? = _
    rw [List.getElem?_append_left (by rw [pc_len]; exact hj), List.getElem?_eq_getElem]
  have hrest : ∀ j u, (pcs ps)[j]? = some u → cur[r0 + 7 + j]? = some u := fun j u hj => by
    rw [hr0, Nat.add_assoc]
    refine hcell (7 + j) u ?_
    show (pc p ++ pcs ps)[7 + j]? = _
    rw [List.getElem?_append_right (by rw [pc_len]; omega), pc_len, show 7 + j - 7 = j by omega]
    exact hj
  have hs1 := hrow 1 (by decide)
  have hs3 := hrow 3 (by decide)
  have hsz : r0 + 7 ≤ cur.size := by omega
  obtain ⟨W0, hW0⟩ : ∃ W0, W0 = w.alloc (.cells zP 44) := ⟨_, rfl⟩
  have hB0 : Below w.heap.size w W0 := by rw [hW0]; exact (Below.refl _ w).alloc (Nat.le_refl _) _
  have HW0 : Hid (W0 = w.alloc (.cells #[.int .u16 0, .int .u16 0, .int .u32 0, .bool false, .slice none 0 0, .bool false, .bool false] 44)) := hW0
  have hblt := hc.lt
  have hglt := hh.lt
  have e0 := (hh.later hB0).cell (r0 + 5) (hrow 5 (by decide))
  have wlt : w.heap.size < W0.heap.size := by rw [hW0]; simp
  have e1 := (hc.later hB0).cell o hv
  rw [← hr0] at hv e1
  have HC := hidden (And.intro hc (And.intro hv hs))
  have HH := hidden hh
  have HBY := hidden hby
  have HRR := hidden (And.intro hrow hrest)
  have HSZ := hidden (And.intro h1 (And.intro h2 (And.intro h3 hsz)))
  have HR0 := hidden hr0
  have HB0 := hidden hB0
  have HW := hidden hW0
  have HDL := hidden hd
  have HN1 : Hid (N1 w b o cs (.slice (some ⟨g, r0, none⟩) (ps.length + 1) cap) s p.r g r0 cur W0 cs cur) := by rw [hW0]; exact N1.same hc hv hs hh hs1 (by rw [hb]; rfl)
  clear hc hs hh h1 h2 h3 hcell hby hrow hrest hs1 hs3 hsz hW0 hB0 hr0 hd hv
  rw [← HR0.out]
  obtain ⟨⟨st, sn, pr, un, d, bg⟩, dv⟩ := p
  simp only at hb hl
  subst hb
  obtain ⟨dg, doff, dcap, hdv, hdD, hdlt, hdl, hdc, hdr⟩ := HBY.out.row
  simp only at hdv hdl hdr
  subst hdv
  obtain ⟨m, hm⟩ : ∃ m, m = ps.length := ⟨_, rfl⟩
  rw [← hm] at e1 HN1 ⊢
  have HM := hidden hm
  obtain ⟨dl, hdl0⟩ : ∃ dl, dl = d.length := ⟨_, rfl⟩
  rw [← hdl0] at hl hdl hdr
  have HDE := hidden hdl0
  have HDR := hidden hdr
  have HDD := hidden hdD
  clear hm hdl0 hdr hdD
  go_enter Try.func33, Try.ntmps33
  go_upto_region 1 with fail
  rw [← HW0.out]
  go_upto_region 4 with fail
  obtain ⟨W1, cs1, cur1, hWW, HN⟩ : ∃ W1 cs1 cur1, W1 = W0 ∧ Hid (N1 w b o cs (.slice (some ⟨g, r0, none⟩) (m + 1) cap) s ⟨st, sn, pr, un, d, false⟩ g r0 cur W1 cs1 cur1) := ⟨W0, cs, cur, rfl, HN1.out⟩
  rw [← hWW]
  have wlt : w.heap.size < W1.heap.size := by rw [hWW]; exact wlt
  clear HN1 e0 e1 hWW
  have n1 := HN.out
  obtain ⟨SN, hSN⟩ : ∃ SN, SN = nsn (⟨st, sn, pr, un, d, false⟩ : Rest) s := ⟨_, rfl⟩
  have a0 : W1.cell? ⟨g, r0, none⟩ = some (.int .u16 st) := n1.gh.cell _ ((n1.g2 (r0 + 0) (by omega)).trans (HRR.out.1 0 (by decide)))
  have a1 : W1.cell? ⟨g, r0 + 1, none⟩ = some (.int .u16 SN) := by rw [hSN]; exact n1.gh.cell _ n1.g1
  have a2 : W1.cell? ⟨g, r0 + 2, none⟩ = some (.int .u32 pr) := n1.gh.cell _ ((n1.g2 (r0 + 2) (by omega)).trans (HRR.out.1 2 (by decide)))
  have a3 : W1.cell? ⟨g, r0 + 3, none⟩ = some (.bool un) := n1.gh.cell _ ((n1.g2 (r0 + 3) (by omega)).trans (HRR.out.1 3 (by decide)))
  have a4 : W1.cell? ⟨g, r0 + 4, none⟩ = some (.slice (some ⟨dg, doff, none⟩) dl dcap) := by rw [HDE.out]; exact n1.gh.cell _ ((n1.g2 (r0 + 4) (by omega)).trans (HRR.out.1 4 (by decide)))
  have a5 : W1.cell? ⟨g, r0 + 5, none⟩ = some (.bool false) := n1.gh.cell _ ((n1.g2 (r0 + 5) (by omega)).trans (HRR.out.1 5 (by decide)))
  have a6 : W1.cell? ⟨g, r0 + 6, none⟩ = some (.bool true) := n1.gh.cell _ ((n1.g2 (r0 + 6) (by omega)).trans (HRR.out.1 6 (by decide)))
  have y4 := n1.gh.frozen (r0 + 4)
  have y5 := n1.gh.frozen (r0 + 5)
  have g1lt := n1.gh.lt
  have b1lt := n1.c.lt
  have HSN := hidden hSN
  clear hSN
  obtain ⟨W2, hW2⟩ : ∃ W2, W2 = W1.alloc (.cells #[.int .u16 st, .int .u16 SN, .int .u32 pr, .bool un, .slice (some ⟨dg, doff, none⟩) dl dcap, .bool false, .bool true] 44) := ⟨_, rfl⟩
  have hbelA : Below W1.heap.size W1 W2 := by rw [hW2]; exact (Below.refl _ _).alloc (Nat.le_refl _) _
  have hbx : Has W2 W1.heap.size #[.int .u16 st, .int .u16 SN, .int .u32 pr, .bool un, .slice (some ⟨dg, doff, none⟩) dl dcap, .bool false, .bool true] 44 := by rw [hW2]; exact Has.new _ _ _
  obtain ⟨q1, q2, q3, q4⟩ := HSZ.out
  have hsz1 := n1.g0
  have DR := hidden (drop_ (w := W2) (m := m) (n1.c.later hbelA) n1.c0 (n1.gh.later hbelA) (by omega) (by rw [HM.out]; exact q1))
  have HN2 := hidden (And.intro (n1.z.later hbelA) (n1.m.trans (Mod.of_below (F := fun _ => False) hbelA) (fun k hk => hk.elim)))
  have HW2 := hidden hW2
  have HBX := hidden hbx
  have hgz : w.heap.size ≠ g := by omega
  have hbz : w.heap.size ≠ b := by omega
  clear hW2 hbx hbelA n1
  go_wp2_with fail
  rw [← HW2.out]
  refine Calls.mono DR.out ?_
  rintro e W5 ⟨rfl, d1, ⟨cur5, d2, d3, d4⟩, d5⟩
  have hz5 : Has W5 w.heap.size zP 44 := d5.has HN2.out.1 (by omega)
  have hbx5 : Has W5 W1.heap.size #[.int .u16 st, .int .u16 SN, .int .u32 pr, .bool un, .slice (some ⟨dg, doff, none⟩) dl dcap, .bool false, .bool true] 44 := d5.has HBX.out (by omega)
  have hM5 : Mod (fun k => k = b ∨ k = g) w W5 := HN2.out.2.trans d5 (fun k hk => .inl hk)
  have hnd : ∀ x : Nat, (x = b ∨ x = g) → ¬ (∃ cu, Has w x cu 5) := by
    rintro x (rfl | rfl) ⟨cu, hcu⟩
    · exact hcu.ne HC.out.1 (by decide) rfl
    · exact hcu.ne HH.out (by decide) rfl
  have hby5 : By D W5 (.slice (some ⟨dg, doff, none⟩) dl dcap) d := by
    obtain ⟨kk, cu, hk1, hk2⟩ := HBY.out.block
    have := HBY.out.stay1 hM5 (fun k hk hf => hnd k hf ⟨cu, by rw [hk] at hk1; cases hk1; exact hk2⟩)
    rw [HDE.out]; exact this
  have hrow5 : Row W5 (some ⟨dg, doff, none⟩) dl d := by
    obtain ⟨g', o', c', e', _, _, _, _, hr'⟩ := hby5.row
    cases e'
    rw [← HDE.out] at hr'
    exact hr'
  have CL := hidden (clone (cap := dcap) hrow5 (by have := HDL.out; rw [HDE.out]; exact this))
  have HTK : Hid (Tk D w b o cs (.slice (some ⟨g, r0, none⟩) (m + 1) cap) s ⟨st, sn, pr, un, d, false⟩ ps n W5) := by
    have n1 := HN.out
    refine ⟨(if m = 0 then .slice none 0 0 else .slice (some ⟨g, r0 + 7, none⟩) m (cap - 1)), [], _, ?_, (fun q hq => by cases hq), ?_, ?_, ⟨d1, ?_, ?_, fun j e1 e2 => ?_⟩, hM5.mono (fun k hk => hk.imp id (fun e => by rw [e]; rfl))⟩
    · rw [left_all (by rw [← HDE.out]; exact hl)]; rfl
    · have := row_drop (off := off) (ps := ps) (cap := cap) d2 q1 (by rw [d3]; omega) q3 (fun j u hj => by
        rw [← HR0.out, d4 _ (by omega), n1.g2 _ (by omega)]
        exact HRR.out.2 j u hj)
      rw [← HR0.out, ← HM.out] at this
      exact this
    · intro kk hk
      split at hk
      · cases hk
      · exact hk
    · rw [Array.getElem?_setIfInBounds, if_pos rfl, if_pos (Array.getElem?_eq_some_iff.1 n1.c0).1]
    · rw [Array.getElem?_setIfInBounds, if_neg (by omega)]; exact n1.c1
    · rw [Array.getElem?_setIfInBounds, if_neg (by omega)]; exact n1.c2 j e1 e2
  have HBX5 := hidden hbx5
  have HZ2 := hidden hz5
  have HS2 : Hid (W1.heap.size < W5.heap.size) := hbx5.lt
  have b4 := hbx5.cell 4 rfl
  clear d1 d2 d3 d4 d5 hz5 hbx5 hby5 hrow5 hM5 hnd HBX a0 a1 a2 a3 a4 a5 a6
  go_wp2_with fail
  refine Calls.mono CL.out ?_
  rintro e W3 ⟨x, rfl, hx, hB3⟩
  obtain ⟨xa, xc, hxe, _⟩ := hx.row
  obtain ⟨xl, hxl⟩ : ∃ xl, xl = d.length := ⟨_, rfl⟩
  rw [← hxl] at hxe
  subst hxe
  have b6 := (HBX5.out.later hB3)
  have z6 := (HZ2.out.later hB3)
  have hne46 : w.heap.size ≠ W1.heap.size := by omega
  obtain ⟨W4, hW4⟩ : ∃ W4, W4 = W3.setCell ⟨W1.heap.size, 4, none⟩ (.slice xa xl xc) := ⟨_, rfl⟩
  have h6 : Has W4 W1.heap.size #[.int .u16 st, .int .u16 SN, .int .u32 pr, .bool un, .slice xa xl xc, .bool false, .bool true] 44 := by rw [hW4]; exact b6.set 4 _
  have h4 : Has W4 w.heap.size zP 44 := by rw [hW4]; exact z6.set_other (p := ⟨W1.heap.size, 4, none⟩) hne46 _
  have hM4 : Mod (fun k => w.heap.size ≤ k) W5 W4 := by rw [hW4]; exact (Mod.of_below hB3).trans (Mod.setCell (F := fun k => w.heap.size ≤ k) W3 (p := ⟨W1.heap.size, 4, none⟩) (Nat.le_of_lt wlt) _) (fun k hk => .inl hk)
  have hX4 : Mine W5.heap.size W4 (.slice xa xl xc) d := by
    rw [hW4]
    refine hx.stay (Mod.setCell (F := fun k => k = W1.heap.size) W3 (p := ⟨W1.heap.size, 4, none⟩) rfl _) (fun k hk e => ?_)
    obtain ⟨cu, _, hle⟩ := hx.obj hk
    have := HS2.out
    omega
  have i6 := b6.cell 4 rfl
  have j6 := b6.frozen 4
  have HW4 := hidden hW4
  have HF4 := hidden (And.intro hM4 (And.intro hX4 hxl))
  have H4 := hidden h4
  clear hW4 hM4 hX4 hxl hx hB3 b6 z6
  go_upto_region 10 with fail
  rw [← HW4.out]
  have o0 := h6.cell 0 rfl
  have l0 := h4.cell 0 rfl
  have t0 := h4.frozen 0
  have o1 := h6.cell 1 rfl
  have l1 := h4.cell 1 rfl
  have t1 := h4.frozen 1
  have o2 := h6.cell 2 rfl
  have l2 := h4.cell 2 rfl
  have t2 := h4.frozen 2
  have o3 := h6.cell 3 rfl
  have l3 := h4.cell 3 rfl
  have t3 := h4.frozen 3
  have o4 := h6.cell 4 rfl
  have l4 := h4.cell 4 rfl
  have t4 := h4.frozen 4
  have o5 := h6.cell 5 rfl
  have l5 := h4.cell 5 rfl
  have t5 := h4.frozen 5
  have o6 := h6.cell 6 rfl
  have l6 := h4.cell 6 rfl
  have t6 := h4.frozen 6
  clear h6 h4 i6 j6
  simp only [zP] at l0 l1 l2 l3 l4 l5 l6
  go_wp2
  have hfin := ((((((H4.out.set 0 (.int .u16 st)).set 1 (.int .u16 SN)).set 2 (.int .u32 pr)).set 3 (.bool un)).set 4 (.slice xa xl xc)).set 5 (.bool false)).set 6 (.bool true)
  refine bodyPost_ret (results_cell_row rfl _ _ w.heap.size 44 #[.int .u16 st, .int .u16 SN, .int .u32 pr, .bool un, .slice xa xl xc, .bool false, .bool true] (0, 0) _ rfl hfin Try.underlying44 rfl (by kernel_rfl)) rfl ?_
  obtain ⟨hM4, hX4, hxl⟩ := HF4.out
  have hms : ∀ (W : World) (q : Nat) (u : Value), Mod (fun k => k = w.heap.size) W (W.setCell ⟨w.heap.size, q, none⟩ u) := fun W q u => Mod.setCell (F := fun k => k = w.heap.size) W (p := ⟨w.heap.size, q, none⟩) rfl u
  have hmf := ((((((hms W4 0 (.int .u16 st)).trans (hms _ 1 (.int .u16 SN)) (fun k hk => .inl hk)).trans (hms _ 2 (.int .u32 pr)) (fun k hk => .inl hk)).trans (hms _ 3 (.bool un)) (fun k hk => .inl hk)).trans (hms _ 4 (.slice xa xl xc)) (fun k hk => .inl hk)).trans (hms _ 5 (.bool false)) (fun k hk => .inl hk)).trans (hms _ 6 (.bool true)) (fun k hk => .inl hk)
  refine ⟨.slice xa xl xc, ?_, ?_, ?_⟩
  · rw [HSN.out]
    unfold pcv cut
    simp only [HDE.out.symm]
    simp
    try omega
  · have hst := hX4.stay hmf (fun k hk e => by
      obtain ⟨cu, _, hle⟩ := hX4.obj hk
      have := HS2.out
      omega)
    have := hst.le (base' := w.heap.size) (by have := HS2.out; omega)
    have ecut : (cut (⟨st, sn, pr, un, d, false⟩ : Rest) s n).d = d := by
      unfold cut
      exact List.take_of_length_le (by rw [← HDE.out]; omega)
    rw [ecut]
    exact this
  · exact HTK.out.on ((hM4.trans hmf (fun k hk => .inl (Nat.le_of_eq hk.symm)))) hblt (fun k hk => by cases hk; exact hglt)
set_option maxHeartbeats 1000000 in
theorem take_1c {D : Nat → Prop} {w : World} {b o g off cap : Nat} {cs cur : Array Value} {s n : Int} {p : RV} {ps : List RV} (hc : Has w b cs 71) (hv : cs[o]? = some (.slice (some ⟨g, off * 7, none⟩) (ps.length + 1) cap)) (hs : cs[o + 1]? = some (.int .u16 s)) (hsr : 0 ≤ s ∧ s < 65536)
    (hh : Has w g cur 44) (h1 : ps.length + 1 ≤ cap) (h2 : (off + cap) * 7 = cur.size) (h3 : cap ≤ 9223372036854775807) (hcell : ∀ j u, (pcs (p :: ps))[j]? = some u → cur[off * 7 + j]? = some u) (hby : By D w p.v p.r.d) (hn : 1 ≤ n) (hd : 1 ≤ p.r.d.length) (hb : p.r.bg = true) (hu : p.r.un = true) (hl : ¬ (p.r.d.length : Int) ≤ n) :
    Calls Try.prog 33 #[.pointer (some ⟨b, o, none⟩), .int .i64 n] w fun e w' => ∃ x, e = .returned (pcv (cut p.r s n) x) ∧ Mine w.heap.size w' x (cut p.r s n).d ∧ Tk D w b o cs (.slice (some ⟨g, off * 7, none⟩) (ps.length + 1) cap) s p.r ps n w' := by
  obtain ⟨r0, hr0⟩ : ∃ r0, r0 = off * 7 := ⟨_, rfl⟩
  have hrow : ∀ j, j < 7 → cur[r0 + j]? = (pc p)[j]? := fun j hj => by
    rw [hr0, List.getElem?_eq_getElem (by rw [pc_len]; exact hj)]
    refine hcell j _ ?_
    show (pc p ++ pcs ps)[j]? = _
    rw [List.getElem?_append_left (by rw [pc_len]; exact hj), List.getElem?_eq_getElem]
  have hrest : ∀ j u, (pcs ps)[j]? = some u → cur[r0 + 7 + j]? = some u := fun j u hj => by
    rw [hr0, Nat.add_assoc]
    refine hcell (7 + j) u ?_
    show (pc p ++ pcs ps)[7 + j]? = _
    rw [List.getElem?_append_right (by rw [pc_len]; omega), pc_len, show 7 + j - 7 = j by omega]
    exact hj
  have hs1 := hrow 1 (by decide)
  have hs3 := hrow 3 (by decide)
  have hsz : r0 + 7 ≤ cur.size := by omega
  obtain ⟨W0, hW0⟩ : ∃ W0, W0 = w.alloc (.cells zP 44) := ⟨_, rfl⟩
  have hB0 : Below w.heap.size w W0 := by rw [hW0]; exact (Below.refl _ w).alloc (Nat.le_refl _) _
  have HW0 : Hid (W0 = w.alloc (.cells #[.int .u16 0, .int .u16 0, .int .u32 0, .bool false, .slice none 0 0, .bool false, .bool false] 44)) := hW0
  have hblt := hc.lt
  have hglt := hh.lt
  have e0 := (hh.later hB0).cell (r0 + 5) (hrow 5 (by decide))
  have wlt : w.heap.size < W0.heap.size := by rw [hW0]; simp
  have e1 := (hc.later hB0).cell o hv
  rw [← hr0] at hv e1
  have HC := hidden (And.intro hc (And.intro hv hs))
  have HH := hidden hh
  have HBY := hidden hby
  have HRR := hidden (And.intro hrow hrest)
  have HSZ := hidden (And.intro h1 (And.intro h2 (And.intro h3 hsz)))
  have HR0 := hidden hr0
  have HB0 := hidden hB0
  have HW := hidden hW0
  have HDL := hidden hd
  have HN1 : Hid (N1 w b o cs (.slice (some ⟨g, r0, none⟩) (ps.length + 1) cap) s p.r g r0 cur W0 cs cur) := by rw [hW0]; exact N1.same hc hv hs hh hs1 (by rw [hb, hu]; rfl)
  have NU := hidden (number_un (w := W0) (b := b) (o := o) (g := g) (r0 := r0) (by rw [← hu]; exact (hh.later hB0).cell _ hs3))
  clear hc hs hh h1 h2 h3 hcell hby hrow hrest hs1 hs3 hsz hW0 hB0 hr0 hd hv
  rw [← HR0.out]
  obtain ⟨k, rfl⟩ : ∃ k : Nat, n = k := ⟨n.toNat, by omega⟩
  obtain ⟨⟨st, sn, pr, un, d, bg⟩, dv⟩ := p
  simp only at hb hu hl
  subst hb
  subst hu
  obtain ⟨dg, doff, dcap, hdv, hdD, hdlt, hdl, hdc, hdr⟩ := HBY.out.row
  simp only at hdv hdl hdr
  subst hdv
  obtain ⟨m, hm⟩ : ∃ m, m = ps.length := ⟨_, rfl⟩
  rw [← hm] at e1 HN1 ⊢
  have HM := hidden hm
  obtain ⟨dl, hdl0⟩ : ∃ dl, dl = d.length := ⟨_, rfl⟩
  rw [← hdl0] at hl hdl hdr
  have HDE := hidden hdl0
  have HDR := hidden hdr
  have HDD := hidden hdD
  clear hm hdl0 hdr hdD
  go_enter Try.func33, Try.ntmps33
  go_upto_region 1 with fail
  rw [← HW0.out]
  go_wp2_with fail
  refine Calls.mono NU.out ?_
  rintro e W1 ⟨rfl, hWW⟩
  obtain ⟨cs1, cur1, HN⟩ : ∃ cs1 cur1, Hid (N1 w b o cs (.slice (some ⟨g, r0, none⟩) (m + 1) cap) s ⟨st, sn, pr, true, d, true⟩ g r0 cur W1 cs1 cur1) := ⟨cs, cur, hWW ▸ HN1.out⟩
  have wlt : w.heap.size < W1.heap.size := by rw [← hWW]; exact wlt
  clear HN1 e0 e1 hWW NU
  have n1 := HN.out
  obtain ⟨SN, hSN⟩ : ∃ SN, SN = nsn (⟨st, sn, pr, true, d, true⟩ : Rest) s := ⟨_, rfl⟩
  have a0 : W1.cell? ⟨g, r0, none⟩ = some (.int .u16 st) := n1.gh.cell _ ((n1.g2 (r0 + 0) (by omega)).trans (HRR.out.1 0 (by decide)))
  have a1 : W1.cell? ⟨g, r0 + 1, none⟩ = some (.int .u16 SN) := by rw [hSN]; exact n1.gh.cell _ n1.g1
  have a2 : W1.cell? ⟨g, r0 + 2, none⟩ = some (.int .u32 pr) := n1.gh.cell _ ((n1.g2 (r0 + 2) (by omega)).trans (HRR.out.1 2 (by decide)))
  have a3 : W1.cell? ⟨g, r0 + 3, none⟩ = some (.bool true) := n1.gh.cell _ ((n1.g2 (r0 + 3) (by omega)).trans (HRR.out.1 3 (by decide)))
  have a4 : W1.cell? ⟨g, r0 + 4, none⟩ = some (.slice (some ⟨dg, doff, none⟩) dl dcap) := by rw [HDE.out]; exact n1.gh.cell _ ((n1.g2 (r0 + 4) (by omega)).trans (HRR.out.1 4 (by decide)))
  have a5 : W1.cell? ⟨g, r0 + 5, none⟩ = some (.bool true) := n1.gh.cell _ ((n1.g2 (r0 + 5) (by omega)).trans (HRR.out.1 5 (by decide)))
  have a6 : W1.cell? ⟨g, r0 + 6, none⟩ = some (.bool true) := n1.gh.cell _ ((n1.g2 (r0 + 6) (by omega)).trans (HRR.out.1 6 (by decide)))
  have y4 := n1.gh.frozen (r0 + 4)
  have y5 := n1.gh.frozen (r0 + 5)
  have g1lt := n1.gh.lt
  have b1lt := n1.c.lt
  have HSN := hidden hSN
  clear hSN
  obtain ⟨W2, hW2⟩ : ∃ W2, W2 = ((W1.setCell ⟨g, r0 + 4, none⟩ (.slice (some ⟨dg, doff + k, none⟩) (dl - k) (dcap - k))).setCell ⟨g, r0 + 5, none⟩ (.bool false)).alloc (.cells #[.int .u16 st, .int .u16 SN, .int .u32 pr, .bool true, .slice (some ⟨dg, doff, none⟩) k dcap, .bool true, .bool false] 44) := ⟨_, rfl⟩
  have hM2 : Mod (fun k => k = b ∨ k = g) w W2 := by
    rw [hW2]
    exact ((n1.m.trans (Mod.setCell (F := fun k => k = b ∨ k = g) W1 (p := ⟨g, r0 + 4, none⟩) (.inr rfl) _) (fun k hk => .inl hk)).trans (Mod.setCell (F := fun k => k = b ∨ k = g) _ (p := ⟨g, r0 + 5, none⟩) (.inr rfl) _) (fun k hk => .inl hk)).trans (Mod.of_below (F := fun _ => False) ((Below.refl _ _).alloc (Nat.le_refl _) _)) (fun k hk => hk.elim)
  have hs2 : ((W1.setCell ⟨g, r0 + 4, none⟩ (.slice (some ⟨dg, doff + k, none⟩) (dl - k) (dcap - k))).setCell ⟨g, r0 + 5, none⟩ (.bool false)).heap.size = W1.heap.size := by simp [World.setCell]
  have hbelA : Below W1.heap.size ((W1.setCell ⟨g, r0 + 4, none⟩ (.slice (some ⟨dg, doff + k, none⟩) (dl - k) (dcap - k))).setCell ⟨g, r0 + 5, none⟩ (.bool false)) W2 := by
    rw [hW2]; exact (Below.refl _ _).alloc (Nat.le_of_eq hs2.symm) _
  have hbx : Has W2 W1.heap.size #[.int .u16 st, .int .u16 SN, .int .u32 pr, .bool true, .slice (some ⟨dg, doff, none⟩) k dcap, .bool true, .bool false] 44 := by
    have := Has.new ((W1.setCell ⟨g, r0 + 4, none⟩ (.slice (some ⟨dg, doff + k, none⟩) (dl - k) (dcap - k))).setCell ⟨g, r0 + 5, none⟩ (.bool false)) #[.int .u16 st, .int .u16 SN, .int .u32 pr, .bool true, .slice (some ⟨dg, doff, none⟩) k dcap, .bool true, .bool false] 44
    rw [hs2, ← hW2] at this
    exact this
  have hgz : w.heap.size ≠ g := by omega
  have hz2 : Has W2 w.heap.size zP 44 := by
    have z1 := (n1.z.set_other (p := ⟨g, r0 + 4, none⟩) hgz (.slice (some ⟨dg, doff + k, none⟩) (dl - k) (dcap - k))).set_other (p := ⟨g, r0 + 5, none⟩) hgz (.bool false)
    exact (hbelA.block _ (by omega)).trans z1
  have hgb : b ≠ g := fun e => by subst e; exact n1.c.ne n1.gh (by decide) rfl
  have hc2 : Has W2 b cs1 71 := by
    have z1 := (n1.c.set_other (p := ⟨g, r0 + 4, none⟩) hgb (.slice (some ⟨dg, doff + k, none⟩) (dl - k) (dcap - k))).set_other (p := ⟨g, r0 + 5, none⟩) hgb (.bool false)
    exact (hbelA.block _ b1lt).trans z1
  have hg2 : Has W2 g ((cur1.setIfInBounds (r0 + 4) (.slice (some ⟨dg, doff + k, none⟩) (dl - k) (dcap - k))).setIfInBounds (r0 + 5) (.bool false)) 44 := by
    have z1 := (n1.gh.set (r0 + 4) (.slice (some ⟨dg, doff + k, none⟩) (dl - k) (dcap - k))).set (r0 + 5) (.bool false)
    exact (hbelA.block _ g1lt).trans z1
  have hnd : ∀ x : Nat, (x = b ∨ x = g) → ¬ (∃ cu, Has w x cu 5) := by
    rintro x (rfl | rfl) ⟨cu, hcu⟩
    · exact hcu.ne HC.out.1 (by decide) rfl
    · exact hcu.ne HH.out (by decide) rfl
  have hby2 : By D W2 (.slice (some ⟨dg, doff, none⟩) dl dcap) d := by
    obtain ⟨kk, cu, hk1, hk2⟩ := HBY.out.block
    have := HBY.out.stay1 hM2 (fun k hk hf => hnd k hf ⟨cu, by rw [hk] at hk1; cases hk1; exact hk2⟩)
    rw [HDE.out]; exact this
  have hrow2 : Row W2 (some ⟨dg, doff, none⟩) k (d.take k) := by
    obtain ⟨g', o', c', e', _, _, _, _, hr'⟩ := hby2.row
    cases e'
    rw [← HDE.out] at hr'
    exact hr'.take k (by omega)
  have CL := hidden (clone (cap := dcap) hrow2 (by omega))
  have HTK : Hid (Tk D w b o cs (.slice (some ⟨g, r0, none⟩) (m + 1) cap) s ⟨st, sn, pr, true, d, true⟩ ps (k : Int) W2) := by
    obtain ⟨q1, q2, q3, q4⟩ := HSZ.out
    have hsz1 := n1.g0
    refine ⟨_, [⟨⟨st, SN, pr, true, d.drop k, false⟩, .slice (some ⟨dg, doff + k, none⟩) (dl - k) (dcap - k)⟩], cs1, ?_, ?_, ?_, fun _ h => h, ⟨hc2, n1.c0, n1.c1, n1.c2⟩, hM2.mono (fun k hk => hk.imp id (fun e => by rw [e]; rfl))⟩
    · rw [left_some (by rw [← HDE.out]; omega), HSN.out]
      simp
    · intro q hq
      rw [List.mem_singleton] at hq
      subst hq
      refine ⟨?_, fun kk hk => ?_⟩
      · have := By.drop (zs := d) (by rw [← HDE.out]; exact hby2) k (by rw [← HDE.out]; omega)
        rw [← HDE.out] at this
        exact this
      · cases hk; exact hdlt
    · refine row_turn (off := off) _ (by rw [HM.out, HR0.out]; rfl) hg2 q1 (by simp; omega) q3 (fun j hj => ?_) (fun j u hj => ?_)
      · rw [← HR0.out]
        have hl1 : r0 + 7 ≤ cur1.size := by omega
        rcases (show j = 0 ∨ j = 1 ∨ j = 2 ∨ j = 3 ∨ j = 4 ∨ j = 5 ∨ j = 6 by omega) with rfl | rfl | rfl | rfl | rfl | rfl | rfl
        · rw [Array.getElem?_setIfInBounds, if_neg (by omega), Array.getElem?_setIfInBounds, if_neg (by omega), n1.g2 _ (by omega)]; exact HRR.out.1 0 (by decide)
        · rw [Array.getElem?_setIfInBounds, if_neg (by omega), Array.getElem?_setIfInBounds, if_neg (by omega), n1.g1, ← HSN.out]; rfl
        · rw [Array.getElem?_setIfInBounds, if_neg (by omega), Array.getElem?_setIfInBounds, if_neg (by omega), n1.g2 _ (by omega)]; exact HRR.out.1 2 (by decide)
        · rw [Array.getElem?_setIfInBounds, if_neg (by omega), Array.getElem?_setIfInBounds, if_neg (by omega), n1.g2 _ (by omega)]; exact HRR.out.1 3 (by decide)
        · rw [Array.getElem?_setIfInBounds, if_neg (by omega), Array.getElem?_setIfInBounds, if_pos rfl, if_pos (by omega)]; rfl
        · rw [Array.getElem?_setIfInBounds, if_pos rfl, if_pos (by simp; omega)]; rfl
        · rw [Array.getElem?_setIfInBounds, if_neg (by omega), Array.getElem?_setIfInBounds, if_neg (by omega), n1.g2 _ (by omega)]; exact HRR.out.1 6 (by decide)
      · rw [← HR0.out, Array.getElem?_setIfInBounds, if_neg (by omega), Array.getElem?_setIfInBounds, if_neg (by omega), n1.g2 _ (by omega)]
        exact HRR.out.2 j u hj
  have HW2 := hidden hW2
  have HBX := hidden hbx
  have HZ2 := hidden hz2
  have HS2 : Hid (W1.heap.size < W2.heap.size) := hbx.lt
  clear hW2 hbx hz2 hc2 hg2 hby2 hrow2 hM2 hbelA n1 hnd hs2
  go_wp2_with fail
  rw [← HW2.out]
  refine Calls.mono CL.out ?_
  rintro e W3 ⟨x, rfl, hx, hB3⟩
  obtain ⟨xa, xc, hxe, _⟩ := hx.row
  obtain ⟨xl, hxl⟩ : ∃ xl, xl = (d.take k).length := ⟨_, rfl⟩
  rw [← hxl] at hxe
  subst hxe
  have b6 := (HBX.out.later hB3)
  have z6 := (HZ2.out.later hB3)
  have hne46 : w.heap.size ≠ W1.heap.size := by omega
  obtain ⟨W4, hW4⟩ : ∃ W4, W4 = W3.setCell ⟨W1.heap.size, 4, none⟩ (.slice xa xl xc) := ⟨_, rfl⟩
  have h6 : Has W4 W1.heap.size #[.int .u16 st, .int .u16 SN, .int .u32 pr, .bool true, .slice xa xl xc, .bool true, .bool false] 44 := by rw [hW4]; exact b6.set 4 _
  have h4 : Has W4 w.heap.size zP 44 := by rw [hW4]; exact z6.set_other (p := ⟨W1.heap.size, 4, none⟩) hne46 _
  have hM4 : Mod (fun k => w.heap.size ≤ k) W2 W4 := by rw [hW4]; exact (Mod.of_below hB3).trans (Mod.setCell (F := fun k => w.heap.size ≤ k) W3 (p := ⟨W1.heap.size, 4, none⟩) (Nat.le_of_lt wlt) _) (fun k hk => .inl hk)
  have hX4 : Mine W2.heap.size W4 (.slice xa xl xc) (d.take k) := by
    rw [hW4]
    refine hx.stay (Mod.setCell (F := fun k => k = W1.heap.size) W3 (p := ⟨W1.heap.size, 4, none⟩) rfl _) (fun k hk e => ?_)
    obtain ⟨cu, _, hle⟩ := hx.obj hk
    have := HS2.out
    omega
  have i6 := b6.cell 4 rfl
  have j6 := b6.frozen 4
  have HW4 := hidden hW4
  have HF4 := hidden (And.intro hM4 (And.intro hX4 hxl))
  have H4 := hidden h4
  clear hW4 hM4 hX4 hxl hx hB3 b6 z6
  go_upto_region 10 with fail
  rw [← HW4.out]
  have o0 := h6.cell 0 rfl
  have l0 := h4.cell 0 rfl
  have t0 := h4.frozen 0
  have o1 := h6.cell 1 rfl
  have l1 := h4.cell 1 rfl
  have t1 := h4.frozen 1
  have o2 := h6.cell 2 rfl
  have l2 := h4.cell 2 rfl
  have t2 := h4.frozen 2
  have o3 := h6.cell 3 rfl
  have l3 := h4.cell 3 rfl
  have t3 := h4.frozen 3
  have o4 := h6.cell 4 rfl
  have l4 := h4.cell 4 rfl
  have t4 := h4.frozen 4
  have o5 := h6.cell 5 rfl
  have l5 := h4.cell 5 rfl
  have t5 := h4.frozen 5
  have o6 := h6.cell 6 rfl
  have l6 := h4.cell 6 rfl
  have t6 := h4.frozen 6
  clear h6 h4 i6 j6
  simp only [zP] at l0 l1 l2 l3 l4 l5 l6
  go_wp2
  have hfin := ((((((H4.out.set 0 (.int .u16 st)).set 1 (.int .u16 SN)).set 2 (.int .u32 pr)).set 3 (.bool true)).set 4 (.slice xa xl xc)).set 5 (.bool true)).set 6 (.bool false)
  refine bodyPost_ret (results_cell_row rfl _ _ w.heap.size 44 #[.int .u16 st, .int .u16 SN, .int .u32 pr, .bool true, .slice xa xl xc, .bool true, .bool false] (0, 0) _ rfl hfin Try.underlying44 rfl (by kernel_rfl)) rfl ?_
  obtain ⟨hM4, hX4, hxl⟩ := HF4.out
  have hms : ∀ (W : World) (q : Nat) (u : Value), Mod (fun k => k = w.heap.size) W (W.setCell ⟨w.heap.size, q, none⟩ u) := fun W q u => Mod.setCell (F := fun k => k = w.heap.size) W (p := ⟨w.heap.size, q, none⟩) rfl u
  have hmf := ((((((hms W4 0 (.int .u16 st)).trans (hms _ 1 (.int .u16 SN)) (fun k hk => .inl hk)).trans (hms _ 2 (.int .u32 pr)) (fun k hk => .inl hk)).trans (hms _ 3 (.bool true)) (fun k hk => .inl hk)).trans (hms _ 4 (.slice xa xl xc)) (fun k hk => .inl hk)).trans (hms _ 5 (.bool true)) (fun k hk => .inl hk)).trans (hms _ 6 (.bool false)) (fun k hk => .inl hk)
  refine ⟨.slice xa xl xc, ?_, ?_, ?_⟩
  · rw [HSN.out]
    unfold pcv cut
    simp only [HDE.out.symm]
    simp
    try omega
  · have hst := hX4.stay hmf (fun k hk e => by
      obtain ⟨cu, _, hle⟩ := hX4.obj hk
      have := HS2.out
      omega)
    have := hst.le (base' := w.heap.size) (by have := HS2.out; omega)
    have ecut : (cut (⟨st, sn, pr, true, d, true⟩ : Rest) s (k : Int)).d = (d.take k) := by
      unfold cut
      simp
    rw [ecut]
    exact this
  · exact HTK.out.on ((hM4.trans hmf (fun k hk => .inl (Nat.le_of_eq hk.symm)))) hblt (fun k hk => by cases hk; exact hglt)
set_option maxHeartbeats 1000000 in
theorem take_1a {D : Nat → Prop} {w : World} {b o g off cap : Nat} {cs cur : Array Value} {s n : Int} {p : RV} {ps : List RV} (hc : Has w b cs 71) (hv : cs[o]? = some (.slice (some ⟨g, off * 7, none⟩) (ps.length + 1) cap)) (hs : cs[o + 1]? = some (.int .u16 s)) (hsr : 0 ≤ s ∧ s < 65536)
    (hh : Has w g cur 44) (h1 : ps.length + 1 ≤ cap) (h2 : (off + cap) * 7 = cur.size) (h3 : cap ≤ 9223372036854775807) (hcell : ∀ j u, (pcs (p :: ps))[j]? = some u → cur[off * 7 + j]? = some u) (hby : By D w p.v p.r.d) (hn : 1 ≤ n) (hd : 1 ≤ p.r.d.length) (hb : p.r.bg = true) (hu : p.r.un = true) (hl : (p.r.d.length : Int) ≤ n) :
    Calls Try.prog 33 #[.pointer (some ⟨b, o, none⟩), .int .i64 n] w fun e w' => ∃ x, e = .returned (pcv (cut p.r s n) x) ∧ Mine w.heap.size w' x (cut p.r s n).d ∧ Tk D w b o cs (.slice (some ⟨g, off * 7, none⟩) (ps.length + 1) cap) s p.r ps n w' := by
  obtain ⟨r0, hr0⟩ : ∃ r0, r0 = off * 7 := ⟨_, rfl⟩
  have hrow : ∀ j, j < 7 → cur[r0 + j]? = (pc p)[j]? := fun j hj => by
    rw [hr0, List.getElem?_eq_getElem (by rw [pc_len]; exact hj)]
    refine hcell j _ ?_
    show (pc p ++ pcs ps)[j]? = _
    rw [List.getElem?_append_left (by rw [pc_len]; exact hj), List.getElem?_eq_getElem]
  have hrest : ∀ j u, (pcs ps)[j]? = some u → cur[r0 + 7 + j]? = some u := fun j u hj => by
    rw [hr0, Nat.add_assoc]
    refine hcell (7 + j) u ?_
    show (pc p ++ pcs ps)[7 + j]? = _
    rw [List.getElem?_append_right (by rw [pc_len]; omega), pc_len, show 7 + j - 7 = j by omega]
    exact hj
  have hs1 := hrow 1 (by decide)
  have hs3 := hrow 3 (by decide)
  have hsz : r0 + 7 ≤ cur.size := by omega
  obtain ⟨W0, hW0⟩ : ∃ W0, W0 = w.alloc (.cells zP 44) := ⟨_, rfl⟩
  have hB0 : Below w.heap.size w W0 := by rw [hW0]; exact (Below.refl _ w).alloc (Nat.le_refl _) _
  have HW0 : Hid (W0 = w.alloc (.cells #[.int .u16 0, .int .u16 0, .int .u32 0, .bool false, .slice none 0 0, .bool false, .bool false] 44)) := hW0
  have hblt := hc.lt
  have hglt := hh.lt
  have e0 := (hh.later hB0).cell (r0 + 5) (hrow 5 (by decide))
  have wlt : w.heap.size < W0.heap.size := by rw [hW0]; simp
  have e1 := (hc.later hB0).cell o hv
  rw [← hr0] at hv e1
  have HC := hidden (And.intro hc (And.intro hv hs))
  have HH := hidden hh
  have HBY := hidden hby
  have HRR := hidden (And.intro hrow hrest)
  have HSZ := hidden (And.intro h1 (And.intro h2 (And.intro h3 hsz)))
  have HR0 := hidden hr0
  have HB0 := hidden hB0
  have HW := hidden hW0
  have HDL := hidden hd
  have HN1 : Hid (N1 w b o cs (.slice (some ⟨g, r0, none⟩) (ps.length + 1) cap) s p.r g r0 cur W0 cs cur) := by rw [hW0]; exact N1.same hc hv hs hh hs1 (by rw [hb, hu]; rfl)
  have NU := hidden (number_un (w := W0) (b := b) (o := o) (g := g) (r0 := r0) (by rw [← hu]; exact (hh.later hB0).cell _ hs3))
  clear hc hs hh h1 h2 h3 hcell hby hrow hrest hs1 hs3 hsz hW0 hB0 hr0 hd hv
  rw [← HR0.out]
  obtain ⟨⟨st, sn, pr, un, d, bg⟩, dv⟩ := p
  simp only at hb hu hl
  subst hb
  subst hu
  obtain ⟨dg, doff, dcap, hdv, hdD, hdlt, hdl, hdc, hdr⟩ := HBY.out.row
  simp only at hdv hdl hdr
  subst hdv
  obtain ⟨m, hm⟩ : ∃ m, m = ps.length := ⟨_, rfl⟩
  rw [← hm] at e1 HN1 ⊢
  have HM := hidden hm
  obtain ⟨dl, hdl0⟩ : ∃ dl, dl = d.length := ⟨_, rfl⟩
  rw [← hdl0] at hl hdl hdr
  have HDE := hidden hdl0
  have HDR := hidden hdr
  have HDD := hidden hdD
  clear hm hdl0 hdr hdD
  go_enter Try.func33, Try.ntmps33
  go_upto_region 1 with fail
  rw [← HW0.out]
  go_wp2_with fail
  refine Calls.mono NU.out ?_
  rintro e W1 ⟨rfl, hWW⟩
  obtain ⟨cs1, cur1, HN⟩ : ∃ cs1 cur1, Hid (N1 w b o cs (.slice (some ⟨g, r0, none⟩) (m + 1) cap) s ⟨st, sn, pr, true, d, true⟩ g r0 cur W1 cs1 cur1) := ⟨cs, cur, hWW ▸ HN1.out⟩
  have wlt : w.heap.size < W1.heap.size := by rw [← hWW]; exact wlt
  clear HN1 e0 e1 hWW NU
  have n1 := HN.out
  obtain ⟨SN, hSN⟩ : ∃ SN, SN = nsn (⟨st, sn, pr, true, d, true⟩ : Rest) s := ⟨_, rfl⟩
  have a0 : W1.cell? ⟨g, r0, none⟩ = some (.int .u16 st) := n1.gh.cell _ ((n1.g2 (r0 + 0) (by omega)).trans (HRR.out.1 0 (by decide)))
  have a1 : W1.cell? ⟨g, r0 + 1, none⟩ = some (.int .u16 SN) := by rw [hSN]; exact n1.gh.cell _ n1.g1
  have a2 : W1.cell? ⟨g, r0 + 2, none⟩ = some (.int .u32 pr) := n1.gh.cell _ ((n1.g2 (r0 + 2) (by omega)).trans (HRR.out.1 2 (by decide)))
  have a3 : W1.cell? ⟨g, r0 + 3, none⟩ = some (.bool true) := n1.gh.cell _ ((n1.g2 (r0 + 3) (by omega)).trans (HRR.out.1 3 (by decide)))
  have a4 : W1.cell? ⟨g, r0 + 4, none⟩ = some (.slice (some ⟨dg, doff, none⟩) dl dcap) := by rw [HDE.out]; exact n1.gh.cell _ ((n1.g2 (r0 + 4) (by omega)).trans (HRR.out.1 4 (by decide)))
  have a5 : W1.cell? ⟨g, r0 + 5, none⟩ = some (.bool true) := n1.gh.cell _ ((n1.g2 (r0 + 5) (by omega)).trans (HRR.out.1 5 (by decide)))
  have a6 : W1.cell? ⟨g, r0 + 6, none⟩ = some (.bool true) := n1.gh.cell _ ((n1.g2 (r0 + 6) (by omega)).trans (HRR.out.1 6 (by decide)))
  have y4 := n1.gh.frozen (r0 + 4)
  have y5 := n1.gh.frozen (r0 + 5)
  have g1lt := n1.gh.lt
  have b1lt := n1.c.lt
  have HSN := hidden hSN
  clear hSN
  obtain ⟨W2, hW2⟩ : ∃ W2, W2 = W1.alloc (.cells #[.int .u16 st, .int .u16 SN, .int .u32 pr, .bool true, .slice (some ⟨dg, doff, none⟩) dl dcap, .bool true, .bool true] 44) := ⟨_, rfl⟩
  have hbelA : Below W1.heap.size W1 W2 := by rw [hW2]; exact (Below.refl _ _).alloc (Nat.le_refl _) _
  have hbx : Has W2 W1.heap.size #[.int .u16 st, .int .u16 SN, .int .u32 pr, .bool true, .slice (some ⟨dg, doff, none⟩) dl dcap, .bool true, .bool true] 44 := by rw [hW2]; exact Has.new _ _ _
  obtain ⟨q1, q2, q3, q4⟩ := HSZ.out
  have hsz1 := n1.g0
  have DR := hidden (drop_ (w := W2) (m := m) (n1.c.later hbelA) n1.c0 (n1.gh.later hbelA) (by omega) (by rw [HM.out]; exact q1))
  have HN2 := hidden (And.intro (n1.z.later hbelA) (n1.m.trans (Mod.of_below (F := fun _ => False) hbelA) (fun k hk => hk.elim)))
  have HW2 := hidden hW2
  have HBX := hidden hbx
  have hgz : w.heap.size ≠ g := by omega
  have hbz : w.heap.size ≠ b := by omega
  clear hW2 hbx hbelA n1
  go_wp2_with fail
  rw [← HW2.out]
  refine Calls.mono DR.out ?_
  rintro e W5 ⟨rfl, d1, ⟨cur5, d2, d3, d4⟩, d5⟩
  have hz5 : Has W5 w.heap.size zP 44 := d5.has HN2.out.1 (by omega)
  have hbx5 : Has W5 W1.heap.size #[.int .u16 st, .int .u16 SN, .int .u32 pr, .bool true, .slice (some ⟨dg, doff, none⟩) dl dcap, .bool true, .bool true] 44 := d5.has HBX.out (by omega)
  have hM5 : Mod (fun k => k = b ∨ k = g) w W5 := HN2.out.2.trans d5 (fun k hk => .inl hk)
  have hnd : ∀ x : Nat, (x = b ∨ x = g) → ¬ (∃ cu, Has w x cu 5) := by
    rintro x (rfl | rfl) ⟨cu, hcu⟩
    · exact hcu.ne HC.out.1 (by decide) rfl
    · exact hcu.ne HH.out (by decide) rfl
  have hby5 : By D W5 (.slice (some ⟨dg, doff, none⟩) dl dcap) d := by
    obtain ⟨kk, cu, hk1, hk2⟩ := HBY.out.block
    have := HBY.out.stay1 hM5 (fun k hk hf => hnd k hf ⟨cu, by rw [hk] at hk1; cases hk1; exact hk2⟩)
    rw [HDE.out]; exact this
  have hrow5 : Row W5 (some ⟨dg, doff, none⟩) dl d := by
    obtain ⟨g', o', c', e', _, _, _, _, hr'⟩ := hby5.row
    cases e'
    rw [← HDE.out] at hr'
    exact hr'
  have CL := hidden (clone (cap := dcap) hrow5 (by have := HDL.out; rw [HDE.out]; exact this))
  have HTK : Hid (Tk D w b o cs (.slice (some ⟨g, r0, none⟩) (m + 1) cap) s ⟨st, sn, pr, true, d, true⟩ ps n W5) := by
    have n1 := HN.out
    refine ⟨(if m = 0 then .slice none 0 0 else .slice (some ⟨g, r0 + 7, none⟩) m (cap - 1)), [], _, ?_, (fun q hq => by cases hq), ?_, ?_, ⟨d1, ?_, ?_, fun j e1 e2 => ?_⟩, hM5.mono (fun k hk => hk.imp id (fun e => by rw [e]; rfl))⟩
    · rw [left_all (by rw [← HDE.out]; exact hl)]; rfl
    · have := row_drop (off := off) (ps := ps) (cap := cap) d2 q1 (by rw [d3]; omega) q3 (fun j u hj => by
        rw [← HR0.out, d4 _ (by omega), n1.g2 _ (by omega)]
        exact HRR.out.2 j u hj)
      rw [← HR0.out, ← HM.out] at this
      exact this
    · intro kk hk
      split at hk
      · cases hk
      · exact hk
    · rw [Array.getElem?_setIfInBounds, if_pos rfl, if_pos (Array.getElem?_eq_some_iff.1 n1.c0).1]
    · rw [Array.getElem?_setIfInBounds, if_neg (by omega)]; exact n1.c1
    · rw [Array.getElem?_setIfInBounds, if_neg (by omega)]; exact n1.c2 j e1 e2
  have HBX5 := hidden hbx5
  have HZ2 := hidden hz5
  have HS2 : Hid (W1.heap.size < W5.heap.size) := hbx5.lt
  have b4 := hbx5.cell 4 rfl
  clear d1 d2 d3 d4 d5 hz5 hbx5 hby5 hrow5 hM5 hnd HBX a0 a1 a2 a3 a4 a5 a6
  go_wp2_with fail
  refine Calls.mono CL.out ?_
  rintro e W3 ⟨x, rfl, hx, hB3⟩
  obtain ⟨xa, xc, hxe, _⟩ := hx.row
  obtain ⟨xl, hxl⟩ : ∃ xl, xl = d.length := ⟨_, rfl⟩
  rw [← hxl] at hxe
  subst hxe
  have b6 := (HBX5.out.later hB3)
  have z6 := (HZ2.out.later hB3)
  have hne46 : w.heap.size ≠ W1.heap.size := by omega
  obtain ⟨W4, hW4⟩ : ∃ W4, W4 = W3.setCell ⟨W1.heap.size, 4, none⟩ (.slice xa xl xc) := ⟨_, rfl⟩
  have h6 : Has W4 W1.heap.size #[.int .u16 st, .int .u16 SN, .int .u32 pr, .bool true, .slice xa xl xc, .bool true, .bool true] 44 := by rw [hW4]; exact b6.set 4 _
  have h4 : Has W4 w.heap.size zP 44 := by rw [hW4]; exact z6.set_other (p := ⟨W1.heap.size, 4, none⟩) hne46 _
  have hM4 : Mod (fun k => w.heap.size ≤ k) W5 W4 := by rw [hW4]; exact (Mod.of_below hB3).trans (Mod.setCell (F := fun k => w.heap.size ≤ k) W3 (p := ⟨W1.heap.size, 4, none⟩) (Nat.le_of_lt wlt) _) (fun k hk => .inl hk)
  have hX4 : Mine W5.heap.size W4 (.slice xa xl xc) d := by
    rw [hW4]
    refine hx.stay (Mod.setCell (F := fun k => k = W1.heap.size) W3 (p := ⟨W1.heap.size, 4, none⟩) rfl _) (fun k hk e => ?_)
    obtain ⟨cu, _, hle⟩ := hx.obj hk
    have := HS2.out
    omega
  have i6 := b6.cell 4 rfl
  have j6 := b6.frozen 4
  have HW4 := hidden hW4
  have HF4 := hidden (And.intro hM4 (And.intro hX4 hxl))
  have H4 := hidden h4
  clear hW4 hM4 hX4 hxl hx hB3 b6 z6
  go_upto_region 10 with fail
  rw [← HW4.out]
  have o0 := h6.cell 0 rfl
  have l0 := h4.cell 0 rfl
  have t0 := h4.frozen 0
  have o1 := h6.cell 1 rfl
  have l1 := h4.cell 1 rfl
  have t1 := h4.frozen 1
  have o2 := h6.cell 2 rfl
  have l2 := h4.cell 2 rfl
  have t2 := h4.frozen 2
  have o3 := h6.cell 3 rfl
  have l3 := h4.cell 3 rfl
  have t3 := h4.frozen 3
  have o4 := h6.cell 4 rfl
  have l4 := h4.cell 4 rfl
  have t4 := h4.frozen 4
  have o5 := h6.cell 5 rfl
  have l5 := h4.cell 5 rfl
  have t5 := h4.frozen 5
  have o6 := h6.cell 6 rfl
  have l6 := h4.cell 6 rfl
  have t6 := h4.frozen 6
  clear h6 h4 i6 j6
  simp only [zP] at l0 l1 l2 l3 l4 l5 l6
  go_wp2
  have hfin := ((((((H4.out.set 0 (.int .u16 st)).set 1 (.int .u16 SN)).set 2 (.int .u32 pr)).set 3 (.bool true)).set 4 (.slice xa xl xc)).set 5 (.bool true)).set 6 (.bool true)
  refine bodyPost_ret (results_cell_row rfl _ _ w.heap.size 44 #[.int .u16 st, .int .u16 SN, .int .u32 pr, .bool true, .slice xa xl xc, .bool true, .bool true] (0, 0) _ rfl hfin Try.underlying44 rfl (by kernel_rfl)) rfl ?_
  obtain ⟨hM4, hX4, hxl⟩ := HF4.out
  have hms : ∀ (W : World) (q : Nat) (u : Value), Mod (fun k => k = w.heap.size) W (W.setCell ⟨w.heap.size, q, none⟩ u) := fun W q u => Mod.setCell (F := fun k => k = w.heap.size) W (p := ⟨w.heap.size, q, none⟩) rfl u
  have hmf := ((((((hms W4 0 (.int .u16 st)).trans (hms _ 1 (.int .u16 SN)) (fun k hk => .inl hk)).trans (hms _ 2 (.int .u32 pr)) (fun k hk => .inl hk)).trans (hms _ 3 (.bool true)) (fun k hk => .inl hk)).trans (hms _ 4 (.slice xa xl xc)) (fun k hk => .inl hk)).trans (hms _ 5 (.bool true)) (fun k hk => .inl hk)).trans (hms _ 6 (.bool true)) (fun k hk => .inl hk)
  refine ⟨.slice xa xl xc, ?_, ?_, ?_⟩
  · rw [HSN.out]
    unfold pcv cut
    simp only [HDE.out.symm]
    simp
    try omega
  · have hst := hX4.stay hmf (fun k hk e => by
      obtain ⟨cu, _, hle⟩ := hX4.obj hk
      have := HS2.out
      omega)
    have := hst.le (base' := w.heap.size) (by have := HS2.out; omega)
    have ecut : (cut (⟨st, sn, pr, true, d, true⟩ : Rest) s n).d = d := by
      unfold cut
      exact List.take_of_length_le (by rw [← HDE.out]; omega)
    rw [ecut]
    exact this
  · exact HTK.out.on ((hM4.trans hmf (fun k hk => .inl (Nat.le_of_eq hk.symm)))) hblt (fun k hk => by cases hk; exact hglt)
set_option maxHeartbeats 1000000 in
theorem take_2c {D : Nat → Prop} {w : World} {b o g off cap : Nat} {cs cur : Array Value} {s n : Int} {p : RV} {ps : List RV} (hc : Has w b cs 71) (hv : cs[o]? = some (.slice (some ⟨g, off * 7, none⟩) (ps.length + 1) cap)) (hs : cs[o + 1]? = some (.int .u16 s)) (hsr : 0 ≤ s ∧ s < 65536)
    (hh : Has w g cur 44) (h1 : ps.length + 1 ≤ cap) (h2 : (off + cap) * 7 = cur.size) (h3 : cap ≤ 9223372036854775807) (hcell : ∀ j u, (pcs (p :: ps))[j]? = some u → cur[off * 7 + j]? = some u) (hby : By D w p.v p.r.d) (hn : 1 ≤ n) (hd : 1 ≤ p.r.d.length) (hb : p.r.bg = true) (hu : p.r.un = false) (hl : ¬ (p.r.d.length : Int) ≤ n) :
    Calls Try.prog 33 #[.pointer (some ⟨b, o, none⟩), .int .i64 n] w fun e w' => ∃ x, e = .returned (pcv (cut p.r s n) x) ∧ Mine w.heap.size w' x (cut p.r s n).d ∧ Tk D w b o cs (.slice (some ⟨g, off * 7, none⟩) (ps.length + 1) cap) s p.r ps n w' := by
  obtain ⟨r0, hr0⟩ : ∃ r0, r0 = off * 7 := ⟨_, rfl⟩
  have hrow : ∀ j, j < 7 → cur[r0 + j]? = (pc p)[j]? := fun j hj => by
    rw [hr0, List.getElem?_eq_getElem (by rw [pc_len]; exact hj)]
    refine hcell j _ ?_
    show (pc p ++ pcs ps)[j]? = _
    rw [List.getElem?_append_left (by rw [pc_len]; exact hj), List.getElem?_eq_getElem]
  have hrest : ∀ j u, (pcs ps)[j]? = some u → cur[r0 + 7 + j]? = some u := fun j u hj => by
    rw [hr0, Nat.add_assoc]
    refine hcell (7 + j) u ?_
    show (pc p ++ pcs ps)[7 + j]? = _
    rw [List.getElem?_append_right (by rw [pc_len]; omega), pc_len, show 7 + j - 7 = j by omega]
    exact hj
  have hs1 := hrow 1 (by decide)
  have hs3 := hrow 3 (by decide)
  have hsz : r0 + 7 ≤ cur.size := by omega
  obtain ⟨W0, hW0⟩ : ∃ W0, W0 = w.alloc (.cells zP 44) := ⟨_, rfl⟩
  have hB0 : Below w.heap.size w W0 := by rw [hW0]; exact (Below.refl _ w).alloc (Nat.le_refl _) _
  have HW0 : Hid (W0 = w.alloc (.cells #[.int .u16 0, .int .u16 0, .int .u32 0, .bool false, .slice none 0 0, .bool false, .bool false] 44)) := hW0
  have hblt := hc.lt
  have hglt := hh.lt
  have e0 := (hh.later hB0).cell (r0 + 5) (hrow 5 (by decide))
  have wlt : w.heap.size < W0.heap.size := by rw [hW0]; simp
  have e1 := (hc.later hB0).cell o hv
  rw [← hr0] at hv e1
  have HC := hidden (And.intro hc (And.intro hv hs))
  have HH := hidden hh
  have HBY := hidden hby
  have HRR := hidden (And.intro hrow hrest)
  have HSZ := hidden (And.intro h1 (And.intro h2 (And.intro h3 hsz)))
  have HR0 := hidden hr0
  have HB0 := hidden hB0
  have HW := hidden hW0
  have HDL := hidden hd
  have NU := hidden (number_or (w := W0) (hc.later hB0) hs (hh.later hB0) (hs3.trans (by rw [← hu]; rfl)) hs1 hsr)
  have HN1 : Hid (∀ W1, Has W1 g (cur.setIfInBounds (r0 + 1) (.int .u16 s)) 44 → Has W1 b (cs.setIfInBounds (o + 1) (.int .u16 ((s + 1) % 65536))) 71 → Mod (fun k => k = b ∨ k = g) W0 W1 → N1 w b o cs (.slice (some ⟨g, r0, none⟩) (ps.length + 1) cap) s p.r g r0 cur W1 (cs.setIfInBounds (o + 1) (.int .u16 ((s + 1) % 65536))) (cur.setIfInBounds (r0 + 1) (.int .u16 s))) := fun W1 k1 k2 k3 => N1.numb hW0 hc hv hs hh hs1 (by rw [hb, hu]; rfl) k1 k2 k3
  clear hc hs hh h1 h2 h3 hcell hby hrow hrest hs1 hs3 hsz hW0 hB0 hr0 hd hv
  rw [← HR0.out]
  obtain ⟨k, rfl⟩ : ∃ k : Nat, n = k := ⟨n.toNat, by omega⟩
  obtain ⟨⟨st, sn, pr, un, d, bg⟩, dv⟩ := p
  simp only at hb hu hl
  subst hb
  subst hu
  obtain ⟨dg, doff, dcap, hdv, hdD, hdlt, hdl, hdc, hdr⟩ := HBY.out.row
  simp only at hdv hdl hdr
  subst hdv
  obtain ⟨m, hm⟩ : ∃ m, m = ps.length := ⟨_, rfl⟩
  rw [← hm] at e1 HN1 ⊢
  have HM := hidden hm
  obtain ⟨dl, hdl0⟩ : ∃ dl, dl = d.length := ⟨_, rfl⟩
  rw [← hdl0] at hl hdl hdr
  have HDE := hidden hdl0
  have HDR := hidden hdr
  have HDD := hidden hdD
  clear hm hdl0 hdr hdD
  go_enter Try.func33, Try.ntmps33
  go_upto_region 1 with fail
  rw [← HW0.out]
  go_wp2_with fail
  refine Calls.mono NU.out ?_
  rintro e W1 ⟨rfl, k1, k2, k3⟩
  obtain ⟨cs1, cur1, HN⟩ : ∃ cs1 cur1, Hid (N1 w b o cs (.slice (some ⟨g, r0, none⟩) (m + 1) cap) s ⟨st, sn, pr, false, d, true⟩ g r0 cur W1 cs1 cur1) := ⟨_, _, HN1.out W1 k1 k2 k3⟩
  have wlt : w.heap.size < W1.heap.size := Nat.lt_of_lt_of_le wlt k3.size
  clear k1 k2 k3
  clear HN1 e0 e1 NU
  have n1 := HN.out
  obtain ⟨SN, hSN⟩ : ∃ SN, SN = nsn (⟨st, sn, pr, false, d, true⟩ : Rest) s := ⟨_, rfl⟩
  have a0 : W1.cell? ⟨g, r0, none⟩ = some (.int .u16 st) := n1.gh.cell _ ((n1.g2 (r0 + 0) (by omega)).trans (HRR.out.1 0 (by decide)))
  have a1 : W1.cell? ⟨g, r0 + 1, none⟩ = some (.int .u16 SN) := by rw [hSN]; exact n1.gh.cell _ n1.g1
  have a2 : W1.cell? ⟨g, r0 + 2, none⟩ = some (.int .u32 pr) := n1.gh.cell _ ((n1.g2 (r0 + 2) (by omega)).trans (HRR.out.1 2 (by decide)))
  have a3 : W1.cell? ⟨g, r0 + 3, none⟩ = some (.bool false) := n1.gh.cell _ ((n1.g2 (r0 + 3) (by omega)).trans (HRR.out.1 3 (by decide)))
  have a4 : W1.cell? ⟨g, r0 + 4, none⟩ = some (.slice (some ⟨dg, doff, none⟩) dl dcap) := by rw [HDE.out]; exact n1.gh.cell _ ((n1.g2 (r0 + 4) (by omega)).trans (HRR.out.1 4 (by decide)))
  have a5 : W1.cell? ⟨g, r0 + 5, none⟩ = some (.bool true) := n1.gh.cell _ ((n1.g2 (r0 + 5) (by omega)).trans (HRR.out.1 5 (by decide)))
  have a6 : W1.cell? ⟨g, r0 + 6, none⟩ = some (.bool true) := n1.gh.cell _ ((n1.g2 (r0 + 6) (by omega)).trans (HRR.out.1 6 (by decide)))
  have y4 := n1.gh.frozen (r0 + 4)
  have y5 := n1.gh.frozen (r0 + 5)
  have g1lt := n1.gh.lt
  have b1lt := n1.c.lt
  have HSN := hidden hSN
  clear hSN
  obtain ⟨W2, hW2⟩ : ∃ W2, W2 = ((W1.setCell ⟨g, r0 + 4, none⟩ (.slice (some ⟨dg, doff + k, none⟩) (dl - k) (dcap - k))).setCell ⟨g, r0 + 5, none⟩ (.bool false)).alloc (.cells #[.int .u16 st, .int .u16 SN, .int .u32 pr, .bool false, .slice (some ⟨dg, doff, none⟩) k dcap, .bool true, .bool false] 44) := ⟨_, rfl⟩
  have hM2 : Mod (fun k => k = b ∨ k = g) w W2 := by
    rw [hW2]
    exact ((n1.m.trans (Mod.setCell (F := fun k => k = b ∨ k = g) W1 (p := ⟨g, r0 + 4, none⟩) (.inr rfl) _) (fun k hk => .inl hk)).trans (Mod.setCell (F := fun k => k = b ∨ k = g) _ (p := ⟨g, r0 + 5, none⟩) (.inr rfl) _) (fun k hk => .inl hk)).trans (Mod.of_below (F := fun _ => False) ((Below.refl _ _).alloc (Nat.le_refl _) _)) (fun k hk => hk.elim)
  have hs2 : ((W1.setCell ⟨g, r0 + 4, none⟩ (.slice (some ⟨dg, doff + k, none⟩) (dl - k) (dcap - k))).setCell ⟨g, r0 + 5, none⟩ (.bool false)).heap.size = W1.heap.size := by simp [World.setCell]
  have hbelA : Below W1.heap.size ((W1.setCell ⟨g, r0 + 4, none⟩ (.slice (some ⟨dg, doff + k, none⟩) (dl - k) (dcap - k))).setCell ⟨g, r0 + 5, none⟩ (.bool false)) W2 := by
    rw [hW2]; exact (Below.refl _ _).alloc (Nat.le_of_eq hs2.symm) _
  have hbx : Has W2 W1.heap.size #[.int .u16 st, .int .u16 SN, .int .u32 pr, .bool false, .slice (some ⟨dg, doff, none⟩) k dcap, .bool true, .bool false] 44 := by
    have := Has.new ((W1.setCell ⟨g, r0 + 4, none⟩ (.slice (some ⟨dg, doff + k, none⟩) (dl - k) (dcap - k))).setCell ⟨g, r0 + 5, none⟩ (.bool false)) #[.int .u16 st, .int .u16 SN, .int .u32 pr, .bool false, .slice (some ⟨dg, doff, none⟩) k dcap, .bool true, .bool false] 44
    rw [hs2, ← hW2] at this
    exact this
  have hgz : w.heap.size ≠ g := by omega
  have hz2 : Has W2 w.heap.size zP 44 := by
    have z1 := (n1.z.set_other (p := ⟨g, r0 + 4, none⟩) hgz (.slice (some ⟨dg, doff + k, none⟩) (dl - k) (dcap - k))).set_other (p := ⟨g, r0 + 5, none⟩) hgz (.bool false)
    exact (hbelA.block _ (by omega)).trans z1
  have hgb : b ≠ g := fun e => by subst e; exact n1.c.ne n1.gh (by decide) rfl
  have hc2 : Has W2 b cs1 71 := by
    have z1 := (n1.c.set_other (p := ⟨g, r0 + 4, none⟩) hgb (.slice (some ⟨dg, doff + k, none⟩) (dl - k) (dcap - k))).set_other (p := ⟨g, r0 + 5, none⟩) hgb (.bool false)
    exact (hbelA.block _ b1lt).trans z1
  have hg2 : Has W2 g ((cur1.setIfInBounds (r0 + 4) (.slice (some ⟨dg, doff + k, none⟩) (dl - k) (dcap - k))).setIfInBounds (r0 + 5) (.bool false)) 44 := by
    have z1 := (n1.gh.set (r0 + 4) (.slice (some ⟨dg, doff + k, none⟩) (dl - k) (dcap - k))).set (r0 + 5) (.bool false)
    exact (hbelA.block _ g1lt).trans z1
  have hnd : ∀ x : Nat, (x = b ∨ x = g) → ¬ (∃ cu, Has w x cu 5) := by
    rintro x (rfl | rfl) ⟨cu, hcu⟩
    · exact hcu.ne HC.out.1 (by decide) rfl
    · exact hcu.ne HH.out (by decide) rfl
  have hby2 : By D W2 (.slice (some ⟨dg, doff, none⟩) dl dcap) d := by
    obtain ⟨kk, cu, hk1, hk2⟩ := HBY.out.block
    have := HBY.out.stay1 hM2 (fun k hk hf => hnd k hf ⟨cu, by rw [hk] at hk1; cases hk1; exact hk2⟩)
    rw [HDE.out]; exact this
  have hrow2 : Row W2 (some ⟨dg, doff, none⟩) k (d.take k) := by
    obtain ⟨g', o', c', e', _, _, _, _, hr'⟩ := hby2.row
    cases e'
    rw [← HDE.out] at hr'
    exact hr'.take k (by omega)
  have CL := hidden (clone (cap := dcap) hrow2 (by omega))
  have HTK : Hid (Tk D w b o cs (.slice (some ⟨g, r0, none⟩) (m + 1) cap) s ⟨st, sn, pr, false, d, true⟩ ps (k : Int) W2) := by
    obtain ⟨q1, q2, q3, q4⟩ := HSZ.out
    have hsz1 := n1.g0
    refine ⟨_, [⟨⟨st, SN, pr, false, d.drop k, false⟩, .slice (some ⟨dg, doff + k, none⟩) (dl - k) (dcap - k)⟩], cs1, ?_, ?_, ?_, fun _ h => h, ⟨hc2, n1.c0, n1.c1, n1.c2⟩, hM2.mono (fun k hk => hk.imp id (fun e => by rw [e]; rfl))⟩
    · rw [left_some (by rw [← HDE.out]; omega), HSN.out]
      simp
    · intro q hq
      rw [List.mem_singleton] at hq
      subst hq
      refine ⟨?_, fun kk hk => ?_⟩
      · have := By.drop (zs := d) (by rw [← HDE.out]; exact hby2) k (by rw [← HDE.out]; omega)
        rw [← HDE.out] at this
        exact this
      · cases hk; exact hdlt
    · refine row_turn (off := off) _ (by rw [HM.out, HR0.out]; rfl) hg2 q1 (by simp; omega) q3 (fun j hj => ?_) (fun j u hj => ?_)
      · rw [← HR0.out]
        have hl1 : r0 + 7 ≤ cur1.size := by omega
        rcases (show j = 0 ∨ j = 1 ∨ j = 2 ∨ j = 3 ∨ j = 4 ∨ j = 5 ∨ j = 6 by omega) with rfl | rfl | rfl | rfl | rfl | rfl | rfl
        · rw [Array.getElem?_setIfInBounds, if_neg (by omega), Array.getElem?_setIfInBounds, if_neg (by omega), n1.g2 _ (by omega)]; exact HRR.out.1 0 (by decide)
        · rw [Array.getElem?_setIfInBounds, if_neg (by omega), Array.getElem?_setIfInBounds, if_neg (by omega), n1.g1, ← HSN.out]; rfl
        · rw [Array.getElem?_setIfInBounds, if_neg (by omega), Array.getElem?_setIfInBounds, if_neg (by omega), n1.g2 _ (by omega)]; exact HRR.out.1 2 (by decide)
        · rw [Array.getElem?_setIfInBounds, if_neg (by omega), Array.getElem?_setIfInBounds, if_neg (by omega), n1.g2 _ (by omega)]; exact HRR.out.1 3 (by decide)
        · rw [Array.getElem?_setIfInBounds, if_neg (by omega), Array.getElem?_setIfInBounds, if_pos rfl, if_pos (by omega)]; rfl
        · rw [Array.getElem?_setIfInBounds, if_pos rfl, if_pos (by simp; omega)]; rfl
        · rw [Array.getElem?_setIfInBounds, if_neg (by omega), Array.getElem?_setIfInBounds, if_neg (by omega), n1.g2 _ (by omega)]; exact HRR.out.1 6 (by decide)
      · rw [← HR0.out, Array.getElem?_setIfInBounds, if_neg (by omega), Array.getElem?_setIfInBounds, if_neg (by omega), n1.g2 _ (by omega)]
        exact HRR.out.2 j u hj
  have HW2 := hidden hW2
  have HBX := hidden hbx
  have HZ2 := hidden hz2
  have HS2 : Hid (W1.heap.size < W2.heap.size) := hbx.lt
  clear hW2 hbx hz2 hc2 hg2 hby2 hrow2 hM2 hbelA n1 hnd hs2
  go_wp2_with fail
  rw [← HW2.out]
  refine Calls.mono CL.out ?_
  rintro e W3 ⟨x, rfl, hx, hB3⟩
  obtain ⟨xa, xc, hxe, _⟩ := hx.row
  obtain ⟨xl, hxl⟩ : ∃ xl, xl = (d.take k).length := ⟨_, rfl⟩
  rw [← hxl] at hxe
  subst hxe
  have b6 := (HBX.out.later hB3)
  have z6 := (HZ2.out.later hB3)
  have hne46 : w.heap.size ≠ W1.heap.size := by omega
  obtain ⟨W4, hW4⟩ : ∃ W4, W4 = W3.setCell ⟨W1.heap.size, 4, none⟩ (.slice xa xl xc) := ⟨_, rfl⟩
  have h6 : Has W4 W1.heap.size #[.int .u16 st, .int .u16 SN, .int .u32 pr, .bool false, .slice xa xl xc, .bool true, .bool false] 44 := by rw [hW4]; exact b6.set 4 _
  have h4 : Has W4 w.heap.size zP 44 := by rw [hW4]; exact z6.set_other (p := ⟨W1.heap.size, 4, none⟩) hne46 _
  have hM4 : Mod (fun k => w.heap.size ≤ k) W2 W4 := by rw [hW4]; exact (Mod.of_below hB3).trans (Mod.setCell (F := fun k => w.heap.size ≤ k) W3 (p := ⟨W1.heap.size, 4, none⟩) (Nat.le_of_lt wlt) _) (fun k hk => .inl hk)
  have hX4 : Mine W2.heap.size W4 (.slice xa xl xc) (d.take k) := by
    rw [hW4]
    refine hx.stay (Mod.setCell (F := fun k => k = W1.heap.size) W3 (p := ⟨W1.heap.size, 4, none⟩) rfl _) (fun k hk e => ?_)
    obtain ⟨cu, _, hle⟩ := hx.obj hk
    have := HS2.out
    omega
  have i6 := b6.cell 4 rfl
  have j6 := b6.frozen 4
  have HW4 := hidden hW4
  have HF4 := hidden (And.intro hM4 (And.intro hX4 hxl))
  have H4 := hidden h4
  clear hW4 hM4 hX4 hxl hx hB3 b6 z6
  go_upto_region 10 with fail
  rw [← HW4.out]
  have o0 := h6.cell 0 rfl
  have l0 := h4.cell 0 rfl
  have t0 := h4.frozen 0
  have o1 := h6.cell 1 rfl
  have l1 := h4.cell 1 rfl
  have t1 := h4.frozen 1
  have o2 := h6.cell 2 rfl
  have l2 := h4.cell 2 rfl
  have t2 := h4.frozen 2
  have o3 := h6.cell 3 rfl
  have l3 := h4.cell 3 rfl
  have t3 := h4.frozen 3
  have o4 := h6.cell 4 rfl
  have l4 := h4.cell 4 rfl
  have t4 := h4.frozen 4
  have o5 := h6.cell 5 rfl
  have l5 := h4.cell 5 rfl
  have t5 := h4.frozen 5
  have o6 := h6.cell 6 rfl
  have l6 := h4.cell 6 rfl
  have t6 := h4.frozen 6
  clear h6 h4 i6 j6
  simp only [zP] at l0 l1 l2 l3 l4 l5 l6
  go_wp2
  have hfin := ((((((H4.out.set 0 (.int .u16 st)).set 1 (.int .u16 SN)).set 2 (.int .u32 pr)).set 3 (.bool false)).set 4 (.slice xa xl xc)).set 5 (.bool true)).set 6 (.bool false)
  refine bodyPost_ret (results_cell_row rfl _ _ w.heap.size 44 #[.int .u16 st, .int .u16 SN, .int .u32 pr, .bool false, .slice xa xl xc, .bool true, .bool false] (0, 0) _ rfl hfin Try.underlying44 rfl (by kernel_rfl)) rfl ?_
  obtain ⟨hM4, hX4, hxl⟩ := HF4.out
  have hms : ∀ (W : World) (q : Nat) (u : Value), Mod (fun k => k = w.heap.size) W (W.setCell ⟨w.heap.size, q, none⟩ u) := fun W q u => Mod.setCell (F := fun k => k = w.heap.size) W (p := ⟨w.heap.size, q, none⟩) rfl u
  have hmf := ((((((hms W4 0 (.int .u16 st)).trans (hms _ 1 (.int .u16 SN)) (fun k hk => .inl hk)).trans (hms _ 2 (.int .u32 pr)) (fun k hk => .inl hk)).trans (hms _ 3 (.bool false)) (fun k hk => .inl hk)).trans (hms _ 4 (.slice xa xl xc)) (fun k hk => .inl hk)).trans (hms _ 5 (.bool true)) (fun k hk => .inl hk)).trans (hms _ 6 (.bool false)) (fun k hk => .inl hk)
  refine ⟨.slice xa xl xc, ?_, ?_, ?_⟩
  · rw [HSN.out]
    unfold pcv cut
    simp only [HDE.out.symm]
    simp
    try omega
  · have hst := hX4.stay hmf (fun k hk e => by
      obtain ⟨cu, _, hle⟩ := hX4.obj hk
      have := HS2.out
      omega)
    have := hst.le (base' := w.heap.size) (by have := HS2.out; omega)
    have ecut : (cut (⟨st, sn, pr, false, d, true⟩ : Rest) s (k : Int)).d = (d.take k) := by
      unfold cut
      simp
    rw [ecut]
    exact this
  · exact HTK.out.on ((hM4.trans hmf (fun k hk => .inl (Nat.le_of_eq hk.symm)))) hblt (fun k hk => by cases hk; exact hglt)
set_option maxHeartbeats 1000000 in
theorem take_2a {D : Nat → Prop} {w : World} {b o g off cap : Nat} {cs cur : Array Value} {s n : Int} {p : RV} {ps : List RV} (hc : Has w b cs 71) (hv : cs[o]? = some (.slice (some ⟨g, off * 7, none⟩) (ps.length + 1) cap)) (hs : cs[o + 1]? = some (.int .u16 s)) (hsr : 0 ≤ s ∧ s < 65536)
    (hh : Has w g cur 44) (h1 : ps.length + 1 ≤ cap) (h2 : (off + cap) * 7 = cur.size) (h3 : cap ≤ 9223372036854775807) (hcell : ∀ j u, (pcs (p :: ps))[j]? = some u → cur[off * 7 + j]? = some u) (hby : By D w p.v p.r.d) (hn : 1 ≤ n) (hd : 1 ≤ p.r.d.length) (hb : p.r.bg = true) (hu : p.r.un = false) (hl : (p.r.d.length : Int) ≤ n) :
    Calls Try.prog 33 #[.pointer (some ⟨b, o, none⟩), .int .i64 n] w fun e w' => ∃ x, e = .returned (pcv (cut p.r s n) x) ∧ Mine w.heap.size w' x (cut p.r s n).d ∧ Tk D w b o cs (.slice (some ⟨g, off * 7, none⟩) (ps.length + 1) cap) s p.r ps n w' := by
  obtain ⟨r0, hr0⟩ : ∃ r0, r0 = off * 7 := ⟨_, rfl⟩
  have hrow : ∀ j, j < 7 → cur[r0 + j]? = (pc p)[j]? := fun j hj => by
    rw [hr0, List.getElem?_eq_getElem (by rw [pc_len]; exact hj)]
    refine hcell j _ ?_
    show (pc p ++ pcs ps)[j]? = _
    rw [List.getElem?_append_left (by rw [pc_len]; exact hj), List.getElem?_eq_getElem]
  have hrest : ∀ j u, (pcs ps)[j]? = some u → cur[r0 + 7 + j]? = some u := fun j u hj => by
    rw [hr0, Nat.add_assoc]
    refine hcell (7 + j) u ?_
    show (pc p ++ pcs ps)[7 + j]? = _
    rw [List.getElem?_append_right (by rw [pc_len]; omega), pc_len, show 7 + j - 7 = j by omega]
    exact hj
  have hs1 := hrow 1 (by decide)
  have hs3 := hrow 3 (by decide)
  have hsz : r0 + 7 ≤ cur.size := by omega
  obtain ⟨W0, hW0⟩ : ∃ W0, W0 = w.alloc (.cells zP 44) := ⟨_, rfl⟩
  have hB0 : Below w.heap.size w W0 := by rw [hW0]; exact (Below.refl _ w).alloc (Nat.le_refl _) _
  have HW0 : Hid (W0 = w.alloc (.cells #[.int .u16 0, .int .u16 0, .int .u32 0, .bool false, .slice none 0 0, .bool false, .bool false] 44)) := hW0
  have hblt := hc.lt
  have hglt := hh.lt
  have e0 := (hh.later hB0).cell (r0 + 5) (hrow 5 (by decide))
  have wlt : w.heap.size < W0.heap.size := by rw [hW0]; simp
  have e1 := (hc.later hB0).cell o hv
  rw [← hr0] at hv e1
  have HC := hidden (And.intro hc (And.intro hv hs))
  have HH := hidden hh
  have HBY := hidden hby
  have HRR := hidden (And.intro hrow hrest)
  have HSZ := hidden (And.intro h1 (And.intro h2 (And.intro h3 hsz)))
  have HR0 := hidden hr0
  have HB0 := hidden hB0
  have HW := hidden hW0
  have HDL := hidden hd
  have NU := hidden (number_or (w := W0) (hc.later hB0) hs (hh.later hB0) (hs3.trans (by rw [← hu]; rfl)) hs1 hsr)
  have HN1 : Hid (∀ W1, Has W1 g (cur.setIfInBounds (r0 + 1) (.int .u16 s)) 44 → Has W1 b (cs.setIfInBounds (o + 1) (.int .u16 ((s + 1) % 65536))) 71 → Mod (fun k => k = b ∨ k = g) W0 W1 → N1 w b o cs (.slice (some ⟨g, r0, none⟩) (ps.length + 1) cap) s p.r g r0 cur W1 (cs.setIfInBounds (o + 1) (.int .u16 ((s + 1) % 65536))) (cur.setIfInBounds (r0 + 1) (.int .u16 s))) := fun W1 k1 k2 k3 => N1.numb hW0 hc hv hs hh hs1 (by rw [hb, hu]; rfl) k1 k2 k3
  clear hc hs hh h1 h2 h3 hcell hby hrow hrest hs1 hs3 hsz hW0 hB0 hr0 hd hv
  rw [← HR0.out]
  obtain ⟨⟨st, sn, pr, un, d, bg⟩, dv⟩ := p
  simp only at hb hu hl
  subst hb
  subst hu
  obtain ⟨dg, doff, dcap, hdv, hdD, hdlt, hdl, hdc, hdr⟩ := HBY.out.row
  simp only at hdv hdl hdr
  subst hdv
  obtain ⟨m, hm⟩ : ∃ m, m = ps.length := ⟨_, rfl⟩
  rw [← hm] at e1 HN1 ⊢
  have HM := hidden hm
  obtain ⟨dl, hdl0⟩ : ∃ dl, dl = d.length := ⟨_, rfl⟩
  rw [← hdl0] at hl hdl hdr
  have HDE := hidden hdl0
  have HDR := hidden hdr
  have HDD := hidden hdD
  clear hm hdl0 hdr hdD
  go_enter Try.func33, Try.ntmps33
  go_upto_region 1 with fail
  rw [← HW0.out]
  go_wp2_with fail
  refine Calls.mono NU.out ?_
  rintro e W1 ⟨rfl, k1, k2, k3⟩
  obtain ⟨cs1, cur1, HN⟩ : ∃ cs1 cur1, Hid (N1 w b o cs (.slice (some ⟨g, r0, none⟩) (m + 1) cap) s ⟨st, sn, pr, false, d, true⟩ g r0 cur W1 cs1 cur1) := ⟨_, _, HN1.out W1 k1 k2 k3⟩
  have wlt : w.heap.size < W1.heap.size := Nat.lt_of_lt_of_le wlt k3.size
  clear k1 k2 k3
  clear HN1 e0 e1 NU
  have n1 := HN.out
  obtain ⟨SN, hSN⟩ : ∃ SN, SN = nsn (⟨st, sn, pr, false, d, true⟩ : Rest) s := ⟨_, rfl⟩
  have a0 : W1.cell? ⟨g, r0, none⟩ = some (.int .u16 st) := n1.gh.cell _ ((n1.g2 (r0 + 0) (by omega)).trans (HRR.out.1 0 (by decide)))
  have a1 : W1.cell? ⟨g, r0 + 1, none⟩ = some (.int .u16 SN) := by rw [hSN]; exact n1.gh.cell _ n1.g1
  have a2 : W1.cell? ⟨g, r0 + 2, none⟩ = some (.int .u32 pr) := n1.gh.cell _ ((n1.g2 (r0 + 2) (by omega)).trans (HRR.out.1 2 (by decide)))
  have a3 : W1.cell? ⟨g, r0 + 3, none⟩ = some (.bool false) := n1.gh.cell _ ((n1.g2 (r0 + 3) (by omega)).trans (HRR.out.1 3 (by decide)))
  have a4 : W1.cell? ⟨g, r0 + 4, none⟩ = some (.slice (some ⟨dg, doff, none⟩) dl dcap) := by rw [HDE.out]; exact n1.gh.cell _ ((n1.g2 (r0 + 4) (by omega)).trans (HRR.out.1 4 (by decide)))
  have a5 : W1.cell? ⟨g, r0 + 5, none⟩ = some (.bool true) := n1.gh.cell _ ((n1.g2 (r0 + 5) (by omega)).trans (HRR.out.1 5 (by decide)))
  have a6 : W1.cell? ⟨g, r0 + 6, none⟩ = some (.bool true) := n1.gh.cell _ ((n1.g2 (r0 + 6) (by omega)).trans (HRR.out.1 6 (by decide)))
  have y4 := n1.gh.frozen (r0 + 4)
  have y5 := n1.gh.frozen (r0 + 5)
  have g1lt := n1.gh.lt
  have b1lt := n1.c.lt
  have HSN := hidden hSN
  clear hSN
  obtain ⟨W2, hW2⟩ : ∃ W2, W2 = W1.alloc (.cells #[.int .u16 st, .int .u16 SN, .int .u32 pr, .bool false, .slice (some ⟨dg, doff, none⟩) dl dcap, .bool true, .bool true] 44) := ⟨_, rfl⟩
  have hbelA : Below W1.heap.size W1 W2 := by rw [hW2]; exact (Below.refl _ _).alloc (Nat.le_refl _) _
  have hbx : Has W2 W1.heap.size #[.int .u16 st, .int .u16 SN, .int .u32 pr, .bool false, .slice (some ⟨dg, doff, none⟩) dl dcap, .bool true, .bool true] 44 := by rw [hW2]; exact Has.new _ _ _
  obtain ⟨q1, q2, q3, q4⟩ := HSZ.out
  have hsz1 := n1.g0
  have DR := hidden (drop_ (w := W2) (m := m) (n1.c.later hbelA) n1.c0 (n1.gh.later hbelA) (by omega) (by rw [HM.out]; exact q1))
  have HN2 := hidden (And.intro (n1.z.later hbelA) (n1.m.trans (Mod.of_below (F := fun _ => False) hbelA) (fun k hk => hk.elim)))
  have HW2 := hidden hW2
  have HBX := hidden hbx
  have hgz : w.heap.size ≠ g := by omega
  have hbz : w.heap.size ≠ b := by omega
  clear hW2 hbx hbelA n1
  go_wp2_with fail
  rw [← HW2.out]
  refine Calls.mono DR.out ?_
  rintro e W5 ⟨rfl, d1, ⟨cur5, d2, d3, d4⟩, d5⟩
  have hz5 : Has W5 w.heap.size zP 44 := d5.has HN2.out.1 (by omega)
  have hbx5 : Has W5 W1.heap.size #[.int .u16 st, .int .u16 SN, .int .u32 pr, .bool false, .slice (some ⟨dg, doff, none⟩) dl dcap, .bool true, .bool true] 44 := d5.has HBX.out (by omega)
  have hM5 : Mod (fun k => k = b ∨ k = g) w W5 := HN2.out.2.trans d5 (fun k hk => .inl hk)
  have hnd : ∀ x : Nat, (x = b ∨ x = g) → ¬ (∃ cu, Has w x cu 5) := by
    rintro x (rfl | rfl) ⟨cu, hcu⟩
    · exact hcu.ne HC.out.1 (by decide) rfl
    · exact hcu.ne HH.out (by decide) rfl
  have hby5 : By D W5 (.slice (some ⟨dg, doff, none⟩) dl dcap) d := by
    obtain ⟨kk, cu, hk1, hk2⟩ := HBY.out.block
    have := HBY.out.stay1 hM5 (fun k hk hf => hnd k hf ⟨cu, by rw [hk] at hk1; cases hk1; exact hk2⟩)
    rw [HDE.out]; exact this
  have hrow5 : Row W5 (some ⟨dg, doff, none⟩) dl d := by
    obtain ⟨g', o', c', e', _, _, _, _, hr'⟩ := hby5.row
    cases e'
    rw [← HDE.out] at hr'
    exact hr'
  have CL := hidden (clone (cap := dcap) hrow5 (by have := HDL.out; rw [HDE.out]; exact this))
  have HTK : Hid (Tk D w b o cs (.slice (some ⟨g, r0, none⟩) (m + 1) cap) s ⟨st, sn, pr, false, d, true⟩ ps n W5) := by
    have n1 := HN.out
    refine ⟨(if m = 0 then .slice none 0 0 else .slice (some ⟨g, r0 + 7, none⟩) m (cap - 1)), [], _, ?_, (fun q hq => by cases hq), ?_, ?_, ⟨d1, ?_, ?_, fun j e1 e2 => ?_⟩, hM5.mono (fun k hk => hk.imp id (fun e => by rw [e]; rfl))⟩
    · rw [left_all (by rw [← HDE.out]; exact hl)]; rfl
    · have := row_drop (off := off) (ps := ps) (cap := cap) d2 q1 (by rw [d3]; omega) q3 (fun j u hj => by
        rw [← HR0.out, d4 _ (by omega), n1.g2 _ (by omega)]
        exact HRR.out.2 j u hj)
      rw [← HR0.out, ← HM.out] at this
      exact this
    · intro kk hk
      split at hk
      · cases hk
      · exact hk
    · rw [Array.getElem?_setIfInBounds, if_pos rfl, if_pos (Array.getElem?_eq_some_iff.1 n1.c0).1]
    · rw [Array.getElem?_setIfInBounds, if_neg (by omega)]; exact n1.c1
    · rw [Array.getElem?_setIfInBounds, if_neg (by omega)]; exact n1.c2 j e1 e2
  have HBX5 := hidden hbx5
  have HZ2 := hidden hz5
  have HS2 : Hid (W1.heap.size < W5.heap.size) := hbx5.lt
  have b4 := hbx5.cell 4 rfl
  clear d1 d2 d3 d4 d5 hz5 hbx5 hby5 hrow5 hM5 hnd HBX a0 a1 a2 a3 a4 a5 a6
  go_wp2_with fail
  refine Calls.mono CL.out ?_
  rintro e W3 ⟨x, rfl, hx, hB3⟩
  obtain ⟨xa, xc, hxe, _⟩ := hx.row
  obtain ⟨xl, hxl⟩ : ∃ xl, xl = d.length := ⟨_, rfl⟩
  rw [← hxl] at hxe
  subst hxe
  have b6 := (HBX5.out.later hB3)
  have z6 := (HZ2.out.later hB3)
  have hne46 : w.heap.size ≠ W1.heap.size := by omega
  obtain ⟨W4, hW4⟩ : ∃ W4, W4 = W3.setCell ⟨W1.heap.size, 4, none⟩ (.slice xa xl xc) := ⟨_, rfl⟩
  have h6 : Has W4 W1.heap.size #[.int .u16 st, .int .u16 SN, .int .u32 pr, .bool false, .slice xa xl xc, .bool true, .bool true] 44 := by rw [hW4]; exact b6.set 4 _
  have h4 : Has W4 w.heap.size zP 44 := by rw [hW4]; exact z6.set_other (p := ⟨W1.heap.size, 4, none⟩) hne46 _
  have hM4 : Mod (fun k => w.heap.size ≤ k) W5 W4 := by rw [hW4]; exact (Mod.of_below hB3).trans (Mod.setCell (F := fun k => w.heap.size ≤ k) W3 (p := ⟨W1.heap.size, 4, none⟩) (Nat.le_of_lt wlt) _) (fun k hk => .inl hk)
  have hX4 : Mine W5.heap.size W4 (.slice xa xl xc) d := by
    rw [hW4]
    refine hx.stay (Mod.setCell (F := fun k => k = W1.heap.size) W3 (p := ⟨W1.heap.size, 4, none⟩) rfl _) (fun k hk e => ?_)
    obtain ⟨cu, _, hle⟩ := hx.obj hk
    have := HS2.out
    omega
  have i6 := b6.cell 4 rfl
  have j6 := b6.frozen 4
  have HW4 := hidden hW4
  have HF4 := hidden (And.intro hM4 (And.intro hX4 hxl))
  have H4 := hidden h4
  clear hW4 hM4 hX4 hxl hx hB3 b6 z6
  go_upto_region 10 with fail
  rw [← HW4.out]
  have o0 := h6.cell 0 rfl
  have l0 := h4.cell 0 rfl
  have t0 := h4.frozen 0
  have o1 := h6.cell 1 rfl
  have l1 := h4.cell 1 rfl
  have t1 := h4.frozen 1
  have o2 := h6.cell 2 rfl
  have l2 := h4.cell 2 rfl
  have t2 := h4.frozen 2
  have o3 := h6.cell 3 rfl
  have l3 := h4.cell 3 rfl
  have t3 := h4.frozen 3
  have o4 := h6.cell 4 rfl
  have l4 := h4.cell 4 rfl
  have t4 := h4.frozen 4
  have o5 := h6.cell 5 rfl
  have l5 := h4.cell 5 rfl
  have t5 := h4.frozen 5
  have o6 := h6.cell 6 rfl
  have l6 := h4.cell 6 rfl
  have t6 := h4.frozen 6
  clear h6 h4 i6 j6
  simp only [zP] at l0 l1 l2 l3 l4 l5 l6
  go_wp2
  have hfin := ((((((H4.out.set 0 (.int .u16 st)).set 1 (.int .u16 SN)).set 2 (.int .u32 pr)).set 3 (.bool false)).set 4 (.slice xa xl xc)).set 5 (.bool true)).set 6 (.bool true)
  refine bodyPost_ret (results_cell_row rfl _ _ w.heap.size 44 #[.int .u16 st, .int .u16 SN, .int .u32 pr, .bool false, .slice xa xl xc, .bool true, .bool true] (0, 0) _ rfl hfin Try.underlying44 rfl (by kernel_rfl)) rfl ?_
  obtain ⟨hM4, hX4, hxl⟩ := HF4.out
  have hms : ∀ (W : World) (q : Nat) (u : Value), Mod (fun k => k = w.heap.size) W (W.setCell ⟨w.heap.size, q, none⟩ u) := fun W q u => Mod.setCell (F := fun k => k = w.heap.size) W (p := ⟨w.heap.size, q, none⟩) rfl u
  have hmf := ((((((hms W4 0 (.int .u16 st)).trans (hms _ 1 (.int .u16 SN)) (fun k hk => .inl hk)).trans (hms _ 2 (.int .u32 pr)) (fun k hk => .inl hk)).trans (hms _ 3 (.bool false)) (fun k hk => .inl hk)).trans (hms _ 4 (.slice xa xl xc)) (fun k hk => .inl hk)).trans (hms _ 5 (.bool true)) (fun k hk => .inl hk)).trans (hms _ 6 (.bool true)) (fun k hk => .inl hk)
  refine ⟨.slice xa xl xc, ?_, ?_, ?_⟩
  · rw [HSN.out]
    unfold pcv cut
    simp only [HDE.out.symm]
    simp
    try omega
  · have hst := hX4.stay hmf (fun k hk e => by
      obtain ⟨cu, _, hle⟩ := hX4.obj hk
      have := HS2.out
      omega)
    have := hst.le (base' := w.heap.size) (by have := HS2.out; omega)
    have ecut : (cut (⟨st, sn, pr, false, d, true⟩ : Rest) s n).d = d := by
      unfold cut
      exact List.take_of_length_le (by rw [← HDE.out]; omega)
    rw [ecut]
    exact this
  · exact HTK.out.on ((hM4.trans hmf (fun k hk => .inl (Nat.le_of_eq hk.symm)))) hblt (fun k hk => by cases hk; exact hglt)
end Go.Proofs.Ytfgoamfoddkafaa.Sq
