/-
  A message is pushed.
  Conditions: the queue lies in memory, the bytes can be read.
-/
import Derived.Test.YtfgoamfoddkafaaSqB
namespace Go.Proofs.Ytfgoamfoddkafaa.Sq
open Go.ChangeShapes Go.WideShapes Go.ChangeAt Go.RowKit
open Ba (hidden Has Only cell_lt heap_lt)
open Ow (Own)
set_option linter.unusedVariables false

/-- bytes of one's own -/
def Mine (base : Nat) (w : World) (v : Value) (zs : List Int) : Prop := w.ownsRow base 5 1 v zs.length (cs zs) ∧ Bytes zs ∧ zs.length ≤ 140737488355328
theorem ownLater {w w' : World} {base E s n : Nat} {v : Value} {xs : List Value} (h : w.ownsRow base E s v n xs) (hb : Below w.heap.size w w') : w'.ownsRow base E s v n xs :=
  h.kept (row := none) ⟨hb.os, hb.tape, hb.output, hb.size, fun k hk _ => hb.block k hk⟩ (Classical.em (v.ownBlock = none))
theorem Mine.later {base : Nat} {w w' : World} {v : Value} {zs : List Int} (h : Mine base w v zs) (hb : Below w.heap.size w w') : Mine base w' v zs := ⟨ownLater h.1 hb, h.2⟩
theorem Mine.row {base : Nat} {w : World} {v : Value} {zs : List Int} (h : Mine base w v zs) : ∃ a cap, v = .slice a zs.length cap ∧ Row w a zs.length zs ∧ zs.length ≤ cap ∧ (a = none → zs.length = 0 ∧ cap = 0) := by
  obtain ⟨⟨hl, h⟩, hb, hn⟩ := h
  rcases h with ⟨rfl, h0⟩ | ⟨g, cap, cur, rfl, hg, hh, hcap, hcm, hsz, htake⟩
  · exact ⟨none, 0, by rw [h0], ⟨rfl, hb, hn, .inl h0⟩, by omega, (fun _ => ⟨h0, rfl⟩)⟩
  · refine ⟨_, cap, rfl, ⟨rfl, hb, hn, .inr ⟨g, 0, rfl, fun j hj => ?_⟩⟩, hcap, (fun h => by cases h)⟩
    rw [Nat.mul_one] at htake
    have e := congrArg (fun t => t[j]?) htake
    simp only [List.getElem?_take, if_pos hj, cs, List.getElem?_map, List.getElem?_eq_getElem hj] at e
    simp only [World.cell?, hh, Nat.zero_add]
    rw [List.getD_eq_getElem?_getD, List.getElem?_eq_getElem hj]
    simpa using e
theorem Mine.stay {base : Nat} {w w' : World} {v : Value} {zs : List Int} {F : Nat → Prop} (h : Mine base w v zs) (hm : Mod F w w') (hF : ∀ k, v.ownBlock = some k → ¬ F k) : Mine base w' v zs := by
  refine ⟨⟨h.1.1, ?_⟩, h.2⟩
  rcases h.1.2 with h0 | ⟨g, cap, cur, rfl, hb, hg, r⟩
  · exact .inl h0
  · exact .inr ⟨g, cap, cur, rfl, hb, hm.has (b := g) hg (hF g rfl), r⟩
theorem Mine.obj {base : Nat} {w : World} {v : Value} {zs : List Int} (h : Mine base w v zs) {k : Nat} (hk : v.ownBlock = some k) : ∃ cur, Has w k cur 5 ∧ base ≤ k := by
  rcases h.1.2 with ⟨rfl, _⟩ | ⟨g, cap, cur, rfl, hb, hg, r⟩
  · cases hk
  · cases hk; exact ⟨cur, hg, hb⟩
/-- bytes are appended to bytes of one's own -/
theorem app_bytes {base : Nat} {w : World} {v : Value} {xs ys : List Int} {ad : Addr} {m c : Nat} (h : Mine base w v xs) (hr : Row w (some ad) m ys) (hm : 0 < m ∨ v.ownBlock ≠ none) (hl : xs.length + ys.length ≤ 140737488355328) (hb : base ≤ w.heap.size) :
    ∃ v' w', (Builtin.append_ #[34, 34] 34 #[v, .slice (some ad) m c]).run Try.prog w = .ok v' w' ∧ Mine base w' v' (xs ++ ys) ∧ w.grownBy w' v.ownBlock ∧ (v'.ownBlock = v.ownBlock ∨ v'.ownBlock = some w.heap.size) := by
  have hml : ys.length = m := hr.1
  obtain ⟨v', w', h1, h2, h3, h4⟩ := Ba.append_at (P := Try.prog) (t := 34) (ty := 34) (c := c) Try.underlying34 info5 rfl (by decide) h.1 (m := m) (by rw [cs_len, hml, Nat.mul_one]) hr.news (cs_one ys) hm (by unfold maxLen; omega) (by omega) hb
  refine ⟨v', w', h1, ⟨?_, h.2.1.append hr.2.1, by rw [List.length_append]; omega⟩, h3, h4⟩
  rw [cs_append, List.length_append, hml]
  exact h2
theorem clone {w : World} {b off len cap : Nat} {zs : List Int} (h : Row w (some ⟨b, off, none⟩) len zs) (hn : 0 < len) : Calls Try.prog 31 #[.slice (some ⟨b, off, none⟩) len cap] w fun e w' => ∃ v, e = .returned v ∧ Mine w.heap.size w' v zs ∧ Below w.heap.size w w' := by
  have hnil : ∀ w, (binOp .eql 34 (.slice (some ⟨b, off, none⟩) len cap) (.slice none 0 0)).run Try.prog w = .ok (.bool false) w := fun w => Lib.run_eql_slice_nil w 34 5 _ len cap 0 0 Try.underlying34
  have hB : Below w.heap.size w (w.alloc (.cells #[] 5)) := (Below.refl _ w).alloc (Nat.le_refl _) _
  have hM : Mine w.heap.size (w.alloc (.cells #[] 5)) (.slice (some ⟨w.heap.size, 0, none⟩) 0 0) [] :=
    ⟨⟨rfl, .inr ⟨w.heap.size, 0, #[], rfl, Nat.le_refl _, heap_alloc_new w _, Nat.le_refl _, by decide, rfl, rfl⟩⟩, Bytes.nil, by decide⟩
  obtain ⟨v3, w3, hrun, m3, g3, _⟩ := app_bytes (c := cap) hM (h.later hB) (.inl hn) (by rw [h.1]; have := h.2.2.1; simpa using this) hB.size
  have HB3 := hidden (hB.grown g3 hB.size (fun j hj => (hM.1.lt j hj).1))
  have HM3 := hidden m3
  have HR := hidden hrun
  clear hM hB hrun m3 g3 h
  go_enter Try.func31, Try.ntmps31
  go_wp2_with (at_builtin; refine Rg.wpList_app rfl _ _ _ rfl rfl rfl HR.out ?_; clear HR)
  go_wp2
  go_ret
  exact ⟨_, rfl, HM3.out, HB3.out⟩

/-- a message as a value -/
def mv (st sn pr : Int) (un : Bool) (v : Value) : Value := .agg #[.int .u16 st, .int .u16 sn, .int .u32 pr, .bool un, v]
def pv (p : RV) : Value := .agg #[.int .u16 p.r.st, .int .u16 p.r.sn, .int .u32 p.r.pr, .bool p.r.un, p.v, .bool p.r.bg, .bool true]
theorem run_bld (st sn pr : Int) (un : Bool) (a : Option Addr) (l c : Nat) (w : World) : (Instr.build 44 #[(0, mv st sn pr un (.slice a l c)), (1, .bool true), (2, .bool true)]).run Try.prog w = .ok (.agg #[.int .u16 st, .int .u16 sn, .int .u32 pr, .bool un, .slice a l c, .bool true, .bool true]) w := by
  unfold mv
  kernel_rfl
theorem run_bsP (st sn pr : Int) (un : Bool) (a : Option Addr) (l c : Nat) (bg : Bool) (w : World) : (Instr.buildSlice 69 1 #[(0, .agg #[.int .u16 st, .int .u16 sn, .int .u32 pr, .bool un, .slice a l c, .bool bg, .bool true])]).run Try.prog w = .ok (.slice (some ⟨w.heap.size, 0, none⟩) 1 1) (w.alloc (.cells #[.int .u16 st, .int .u16 sn, .int .u32 pr, .bool un, .slice a l c, .bool bg, .bool true] 44)) := by
  kernel_rfl
/-- worlds while a rest is appended -/
structure PuA (W1 : World) (b o : Nat) (cs : Array Value) (v : Value) (ps : List RV) (p : RV) (k : Nat) (x : Value) (w' : World) : Prop where
  h0 : k = 0 → w' = W1.drew
  h1 : k = 1 → w' = W1.drew.alloc (.cells (pc p).toArray 44)
  h2 : k = 2 → Rw w' x (ps ++ [p]) ∧ Mod (fun k => v.ownBlock = some k) (W1.drew.alloc (.cells (pc p).toArray 44)) w' ∧ ∀ k, x.ownBlock = some k → v.ownBlock = some k ∨ W1.heap.size ≤ k
  h3 : k = 3 → Rw w' x (ps ++ [p]) ∧ Has w' b (cs.setIfInBounds o x) 71 ∧ Mod (fun k => k = b ∨ v.ownBlock = some k) W1 w' ∧ ∀ k, x.ownBlock = some k → v.ownBlock = some k ∨ W1.heap.size ≤ k
section
variable {W1 w' : World} {b o k : Nat} {cs : Array Value} {v x : Value} {ps : List RV} {p : RV}
theorem PuA.cell (h : PuA W1 b o cs v ps p k x w') (hc : Has W1 b cs 71) (hv : cs[o]? = some v) (hk : k ≤ 1) : w'.cell? ⟨b, o, none⟩ = some v := by
  rcases (show k = 0 ∨ k = 1 by omega) with e1 | e1
  · rw [h.h0 e1]; exact hc.cell o hv
  · rw [h.h1 e1]; exact (hc.later ((Below.refl _ W1).drew.alloc (Nat.le_refl _) _)).cell o hv
theorem PuA.two (h : PuA W1 b o cs v ps p 1 x w') (hr : Rw W1 v ps) (hl : ps.length ≤ 1073741824) (h1 : p.v.oneCell' = true) (ty : TypeId) :
    ∃ v' w2, (Builtin.append_ #[69, 69] ty #[v, .slice (some ⟨W1.heap.size, 0, none⟩) 1 1]).run Try.prog w' = .ok v' w2 ∧ PuA W1 b o cs v ps p (1 + 1) v' w2 := by
  have hw := h.h1 rfl
  subst hw
  have hB : Below W1.heap.size W1 (W1.drew.alloc (.cells (pc p).toArray 44)) := (Below.refl _ W1).drew.alloc (Nat.le_refl _) _
  have hNw : Has (W1.drew.alloc (.cells (pc p).toArray 44)) W1.heap.size (pc p).toArray 44 := Has.new W1.drew _ _
  have hr' := hr.stay (F := fun k => W1.heap.size ≤ k) (Mod.of_below hB) (fun k hk hf => by obtain ⟨cur, hh⟩ := hr.obj hk; have := hh.lt; omega)
  obtain ⟨v', w2, hrun, g1, g2, g3⟩ := app_rest hr' hl h1 hNw ty
  exact ⟨v', w2, hrun, fun e => absurd e (by decide), fun e => absurd e (by decide), fun _ => ⟨g1, g2, fun k hk => (g3 k hk).imp id (fun h => by simp at h; omega)⟩, fun e => absurd e (by decide)⟩
theorem PuA.three (h : PuA W1 b o cs v ps p 2 x w') (hc : Has W1 b cs 71) (hv : cs[o]? = some v) (hr : Rw W1 v ps) :
    (Instr.storeAt 69 (.pointer (some ⟨b, o, none⟩)) x).run Try.prog w' = .ok () (w'.setCell ⟨b, o, none⟩ x) ∧ PuA W1 b o cs v ps p (2 + 1) x (w'.setCell ⟨b, o, none⟩ x) := by
  obtain ⟨g1, g2, g3⟩ := h.h2 rfl
  have hB : Below W1.heap.size W1 (W1.drew.alloc (.cells (pc p).toArray 44)) := (Below.refl _ W1).drew.alloc (Nat.le_refl _) _
  have hne : ¬ v.ownBlock = some b := fun e => by obtain ⟨cur, hh⟩ := hr.obj e; exact hh.ne hc (by decide) rfl
  have hc1 : Has w' b cs 71 := g2.has (hc.later hB) hne
  have c4 := hc1.cell o hv
  have f4 := hc1.frozen o
  obtain ⟨a, cap, hx⟩ := g1.slice
  refine ⟨by rw [hx]; simp [go_sem, c4, f4], fun e => absurd e (by decide), fun e => absurd e (by decide), fun e => absurd e (by decide), fun _ => ⟨?_, hc1.set o x, ?_, g3⟩⟩
  · refine g1.stay (F := fun k => k = b) (Mod.setCell (F := fun k => k = b) w' (p := ⟨b, o, none⟩) rfl x) (fun k hk e => ?_)
    subst e
    obtain ⟨cur, hh⟩ := g1.obj hk
    exact hh.ne hc1 (by decide) rfl
  · exact ((Mod.of_below hB).trans g2 (fun k hk => .inl (.inr hk))).trans (Mod.setCell (F := fun k => k = b ∨ v.ownBlock = some k) w' (p := ⟨b, o, none⟩) (.inl rfl) x) (fun k hk => .inl hk)
end
set_option maxHeartbeats 1000000 in
theorem lane_push {w : World} {b o : Nat} {cs : Array Value} {v : Value} {ps : List RV} (hc : Has w b cs 71) (hv : cs[o]? = some v) (hr : Rw w v ps) (hl : ps.length ≤ 1073741824) (st sn pr : Int) (un : Bool) (va : Option Addr) (vl vc : Nat) (d : List Int) :
    Calls Try.prog 30 #[.pointer (some ⟨b, o, none⟩), mv st sn pr un (.slice va vl vc)] w fun e w' => e = .returned (.tuple #[]) ∧ ∃ v', Rw w' v' (ps ++ [⟨⟨st, sn, pr, un, d, true⟩, .slice va vl vc⟩]) ∧ Has w' b (cs.setIfInBounds o v') 71 ∧ Mod (fun k => k = b ∨ v.ownBlock = some k) w w' ∧ ∀ k, v'.ownBlock = some k → v.ownBlock = some k ∨ w.heap.size ≤ k := by
  obtain ⟨W1, hW1⟩ : ∃ W1, W1 = w.alloc (.cells #[.int .u16 st, .int .u16 sn, .int .u32 pr, .bool un, .slice va vl vc] 42) := ⟨_, rfl⟩
  have hB : Below w.heap.size w W1 := by rw [hW1]; exact (Below.refl _ w).alloc (Nat.le_refl _) _
  have HBX : Hid (Has W1 w.heap.size #[.int .u16 st, .int .u16 sn, .int .u32 pr, .bool un, .slice va vl vc] 42) := by rw [hW1]; exact Has.new w _ _
  have HC := hidden (hc.later hB)
  have HV := hidden hv
  have HR : Hid (Rw W1 v ps) := hr.stay (F := fun k => w.heap.size ≤ k) (Mod.of_below hB) (fun k hk hf => by obtain ⟨cur, hh⟩ := hr.obj hk; have := hh.lt; omega)
  have HL := hidden hl
  have HO : Hid ((⟨⟨st, sn, pr, un, d, true⟩, .slice va vl vc⟩ : RV).v.oneCell' = true) := rfl
  have HB := hidden hB
  have HW1 := hidden hW1
  obtain ⟨ra, rc, hve⟩ := hr.slice
  generalize hrn : ps.length = rn at hve
  have HVE := hidden hve
  have hblt := hc.lt
  clear hB hc hv hr hl hW1 hve hrn
  unfold mv
  go_enter Try.func30, Try.ntmps30
  go_upto_region 1 with fail
  rw [← HW1.out]
  refine Ord.wp_region_ex0 (X := Value) (by kernel_rfl) 15 (fun x => [(some 4, .pointer (some ⟨b, o, none⟩)), (some 5, .pointer (some ⟨b, o, none⟩)), (some 6, .pointer (some ⟨b, o, none⟩)), (some 7, .pointer (some ⟨b, o, none⟩)), (some 8, .slice ra rn rc), (some 9, mv st sn pr un (.slice va vl vc)), (some 10, .agg #[.int .u16 st, .int .u16 sn, .int .u32 pr, .bool un, .slice va vl vc, .bool true, .bool true]), (some 11, .slice (some ⟨W1.heap.size, 0, none⟩) 1 1), (some 12, x), (some 13, .pointer (some ⟨b, o, none⟩)), (some 14, .pointer (some ⟨b, o, none⟩)), (none, undef)]) [some 4, some 5, some 6, some 7, some 8, some 9, some 10, some 11, some 12, some 13, some 14, none] rfl (fun listed hsz hr => Ord.all_listedC (rank := [0, 1, 2, 3, 4, 5, 6, 7, 8, 9, 10, 11]) (by kernel_rfl) hsz hr) (by rfl) (fun _ => rfl) (by kernel_rfl) (Rg.StM [7, 8, 11] (fun k x w' => PuA W1 b o cs v ps ⟨⟨st, sn, pr, un, d, true⟩, .slice va vl vc⟩ k x w')) (fun _ _ _ _ hL h => h.ext (n := 12) (by decide) hL) ?_ ?_ undef ?_
  case refine_1 =>
    intro x Lq iq oq ac w' ho hi hcl hdep hF hW
    have f1 : ac.tmps.size = 15 := hF.1
    match iq, ho, hi, hdep with
    | 0, ho, hi, hdep =>
      cases ho
      have da0 : ac.eval (.tmp 0) = .pointer (some ⟨b, o, none⟩) := hF.old 0 rfl
      exact Ord.ex_value x rfl rfl (Rg.mv da0 rfl) rfl (hW.keep (by decide))
    | 1, ho, hi, hdep =>
      cases ho
      have da0 : ac.eval (.tmp 0) = .pointer (some ⟨b, o, none⟩) := hF.old 0 rfl
      exact Ord.ex_value x rfl rfl (Rg.mv da0 rfl) rfl (hW.keep (by decide))
    | 2, ho, hi, hdep =>
      cases ho
      have da0 : ac.eval (.tmp 5) = .pointer (some ⟨b, o, none⟩) := hF.2.2.2 1 5 _ rfl (hdep ⟨1, .data⟩ (by simp) rfl)
      exact Ord.ex_value x rfl rfl (Rg.nilc da0 rfl) rfl (hW.keep (by decide))
    | 3, ho, hi, hdep =>
      cases ho
      have da0 : ac.eval (.tmp 6) = .pointer (some ⟨b, o, none⟩) := hF.2.2.2 2 6 _ rfl (hdep ⟨2, .data⟩ (by simp) rfl)
      exact Ord.ex_value x rfl rfl (Rg.fa da0 rfl (by simp [go_sem])) rfl (hW.keep (by decide))
    | 4, ho, hi, hdep =>
      cases ho
      have da0 : ac.eval (.tmp 7) = .pointer (some ⟨b, o, none⟩) := hF.2.2.2 3 7 _ rfl (hdep ⟨3, .data⟩ (by simp) rfl)
      obtain ⟨kq, hlo, hhi, hA⟩ := hW.range 0 1 (.inl rfl) (.inr ⟨8, rfl, (Rg.no_of (fun h => hcl 8 _ rfl (h) ⟨4, .data⟩ (by simp) rfl) hi)⟩)
      exact Ord.ex_value x rfl rfl (Rg.load da0 rfl (by have := hA.cell HC.out HV.out hhi; rw [HVE.out] at this; simp [go_sem, this])) rfl (hW.keep (by decide))
    | 5, ho, hi, hdep =>
      cases ho
      have da0 : ac.eval (.tmp 3) = .pointer (some ⟨w.heap.size, 0, none⟩) := hF.old 3 rfl
      obtain ⟨kq, hlo, hhi, hA⟩ := hW.range 0 0 (.inl rfl) (.inr ⟨7, rfl, (Rg.no_of (fun h => hcl 6 _ rfl (hcl 7 _ rfl (h) ⟨6, .data⟩ (by simp) rfl) ⟨5, .data⟩ (by simp) rfl) hi)⟩)
      exact Ord.ex_value x rfl rfl (Rg.load da0 rfl (by rw [hA.h0 (by omega)]; unfold mv; simp [go_sem, HBX.out.cell 0 rfl, HBX.out.cell 1 rfl, HBX.out.cell 2 rfl, HBX.out.cell 3 rfl, HBX.out.cell 4 rfl])) rfl (hW.keep (by decide))
    | 6, ho, hi, hdep =>
      cases ho
      have da0 : ac.eval (.tmp 9) = mv st sn pr un (.slice va vl vc) := hF.2.2.2 5 9 _ rfl (hdep ⟨5, .data⟩ (by simp) rfl)
      exact Ord.ex_value x rfl rfl (Rg.bld rfl (by simp [da0]; rfl) (run_bld st sn pr un va vl vc _)) rfl (hW.keep (by decide))
    | 7, ho, hi, hdep =>
      cases ho
      have da0 : ac.eval (.tmp 10) = .agg #[.int .u16 st, .int .u16 sn, .int .u32 pr, .bool un, .slice va vl vc, .bool true, .bool true] := hF.2.2.2 6 10 _ rfl (hdep ⟨6, .data⟩ (by simp) rfl)
      have hA := hW.at (k := 0) rfl hi (.inl rfl)
      have hw := hA.h0 rfl
      subst hw
      exact Ord.ex_value x rfl rfl (Rg.bsl rfl (by simp [da0]) (run_bsP st sn pr un va vl vc true _)) rfl (hW.next (k := 0) rfl (by decide) hi (.inl rfl) ⟨fun e => absurd e (by decide), fun _ => rfl, fun e => absurd e (by decide), fun e => absurd e (by decide)⟩)
    | 8, ho, hi, hdep =>
      cases ho
      have da0 : ac.eval (.tmp 8) = .slice ra rn rc := hF.2.2.2 4 8 _ rfl (hdep ⟨4, .data⟩ (by simp) rfl)
      have da1 : ac.eval (.tmp 11) = .slice (some ⟨W1.heap.size, 0, none⟩) 1 1 := hF.2.2.2 7 11 _ rfl (hdep ⟨7, .data⟩ (by simp) rfl)
      have hA := hW.at (k := 1) rfl hi (.inr ⟨7, rfl, (hdep ⟨7, .data⟩ (by simp) rfl)⟩)
      obtain ⟨v', w2, hr, hA2⟩ := hA.two HR.out HL.out HO.out 69
      rw [HVE.out] at hr
      exact Ord.ex_letter x v' rfl rfl (Rg.app da0 da1 rfl hr) rfl (fun j hj => match j, hj with | 0, _ => rfl | 1, _ => rfl | 2, _ => rfl | 3, _ => rfl | 4, _ => rfl | 5, _ => rfl | 6, _ => rfl | 7, _ => rfl | 8, hj => absurd hj (by rw [hi]; decide) | 9, _ => rfl | 10, _ => rfl | 11, _ => rfl | _ + 12, _ => rfl) (hW.next (k := 1) rfl (by decide) hi (.inr ⟨7, rfl, (hdep ⟨7, .data⟩ (by simp) rfl)⟩) hA2)
    | 9, ho, hi, hdep =>
      cases ho
      have da0 : ac.eval (.tmp 4) = .pointer (some ⟨b, o, none⟩) := hF.2.2.2 0 4 _ rfl (hdep ⟨0, .data⟩ (by simp) rfl)
      exact Ord.ex_value x rfl rfl (Rg.nilc da0 rfl) rfl (hW.keep (by decide))
    | 10, ho, hi, hdep =>
      cases ho
      have da0 : ac.eval (.tmp 13) = .pointer (some ⟨b, o, none⟩) := hF.2.2.2 9 13 _ rfl (hdep ⟨9, .data⟩ (by simp) rfl)
      exact Ord.ex_value x rfl rfl (Rg.fa da0 rfl (by simp [go_sem])) rfl (hW.keep (by decide))
    | 11, ho, hi, hdep =>
      cases ho
      have da0 : ac.eval (.tmp 14) = .pointer (some ⟨b, o, none⟩) := hF.2.2.2 10 14 _ rfl (hdep ⟨10, .data⟩ (by simp) rfl)
      have da1 : ac.eval (.tmp 12) = x := hF.2.2.2 8 12 _ rfl (hdep ⟨8, .data⟩ (by simp) rfl)
      have hA := hW.at (k := 2) rfl hi (.inr ⟨8, rfl, (hdep ⟨8, .data⟩ (by simp) rfl)⟩)
      obtain ⟨hr, hA2⟩ := hA.three HC.out HV.out HR.out
      exact Rg.ex_skip x rfl rfl (Rg.sto da0 da1 rfl hr) rfl (hW.next (k := 2) rfl (by decide) hi (.inr ⟨8, rfl, (hdep ⟨8, .data⟩ (by simp) rfl)⟩) hA2)
  case refine_3 => exact Rg.StM.first ⟨fun _ => rfl, fun e => absurd e (by decide), fun e => absurd e (by decide), fun e => absurd e (by decide)⟩
  case refine_2 =>
    intro v' w2 hW
    obtain ⟨g1, g2, g3, g4⟩ := hW.last.h3 rfl
    have G := hidden (⟨g1, g2, (Mod.of_below HB.out).trans g3 (fun k hk => .inl hk), fun k hk => (g4 k hk).imp id (fun h => Nat.le_trans HB.out.size h)⟩ : Rw w2 v' _ ∧ Has w2 b _ _ ∧ Mod (fun k => k = b ∨ v.ownBlock = some k) w w2 ∧ ∀ k, v'.ownBlock = some k → v.ownBlock = some k ∨ w.heap.size ≤ k)
    clear hW g1 g2 g3 g4
    simp only [Ord.puts, Ord.prs]
    go_simp
    go_wp2
    go_end0
    exact ⟨rfl, _, G.out⟩
end Go.Proofs.Ytfgoamfoddkafaa.Sq
