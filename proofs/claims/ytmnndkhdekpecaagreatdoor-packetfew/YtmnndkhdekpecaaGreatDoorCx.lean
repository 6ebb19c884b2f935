/-
  The document's writer: a chunk's fields of its kind. The document's writer: whether a chunk may be, how many bytes it has. The document's writer: a row that grows beside another one; numbers of two bytes. The document's writer: the bytes of a list of chunks.
  Conditions: as at each lemma.
-/
import Derived.Test.YtmnndkhdekpecaaGreatDoorCw
import Derived.Test.YtmnndkhdekpecaaGreatDoorCf
import Derived.Test.YtmnndkhdekpecaaGreatDoorCd
import Derived.Test.YtmnndkhdekpecaaGreatDoorCb
namespace Go.Proofs.YtmnndkhdekpecaaGreatDoor.Chu
open Go.ChangeShapes Go.WideShapes Go.ChangeAt Go.RowKit
open Par (hidden Bytes Row Prm Prms cell_lt Cap cells_new cutA thrown form_of)
set_option linter.unusedVariables false
set_option linter.unusedSimpArgs false
attribute [local go_sem ↓] execOp_ld execOp_bx execOp_st
attribute [local go_sem] run_box

section
variable {a : Act} {o : Oper} {w : World}
theorem ldP (w : World) (p : Addr) (va : Option Addr) (l k : Nat) (h : w.cell? p = some (.slice va l k)) : (Instr.loadAt 57 (.pointer (some p))).run Tryz.prog w = .ok (.slice va l k) w := by simp [go_sem, h]
theorem o_s8 {p : Addr} {x0 : Value} {n : Int} (x y : Operand) (h0 : a.eval x = .pointer (some p)) (h1 : a.eval y = .int .u8 n) (ho : o.op = .store 5 x y) (hc : w.cell? p = some x0) (hz : w.frozen? p = false) : (execOp a.eval o).run Tryz.prog w = .ok .skip (w.setCell p (.int .u8 n)) := by
  unfold execOp
  rw [ho]
  simp only [h0, h1]
  simp [go_sem, hc, hz]
theorem o_s16 {p : Addr} {x0 : Value} {n : Int} (x y : Operand) (h0 : a.eval x = .pointer (some p)) (h1 : a.eval y = .int .u16 n) (ho : o.op = .store 22 x y) (hc : w.cell? p = some x0) (hz : w.frozen? p = false) : (execOp a.eval o).run Tryz.prog w = .ok .skip (w.setCell p (.int .u16 n)) := by
  unfold execOp
  rw [ho]
  simp only [h0, h1]
  simp [go_sem, hc, hz]
theorem o_s32 {p : Addr} {x0 : Value} {n : Int} (x y : Operand) (h0 : a.eval x = .pointer (some p)) (h1 : a.eval y = .int .u32 n) (ho : o.op = .store 23 x y) (hc : w.cell? p = some x0) (hz : w.frozen? p = false) : (execOp a.eval o).run Tryz.prog w = .ok .skip (w.setCell p (.int .u32 n)) := by
  unfold execOp
  rw [ho]
  simp only [h0, h1]
  simp [go_sem, hc, hz]
theorem o_sG {p : Addr} {x0 : Value} {va : Option Addr} {l k : Nat} (x y : Operand) (h0 : a.eval x = .pointer (some p)) (h1 : a.eval y = .slice va l k) (ho : o.op = .store 55 x y) (hc : w.cell? p = some x0) (hz : w.frozen? p = false) : (execOp a.eval o).run Tryz.prog w = .ok .skip (w.setCell p (.slice va l k)) := by
  unfold execOp
  rw [ho]
  simp only [h0, h1]
  simp [go_sem, hc, hz]
theorem o_sD {p : Addr} {x0 : Value} {va : Option Addr} {l k : Nat} (x y : Operand) (h0 : a.eval x = .pointer (some p)) (h1 : a.eval y = .slice va l k) (ho : o.op = .store 56 x y) (hc : w.cell? p = some x0) (hz : w.frozen? p = false) : (execOp a.eval o).run Tryz.prog w = .ok .skip (w.setCell p (.slice va l k)) := by
  unfold execOp
  rw [ho]
  simp only [h0, h1]
  simp [go_sem, hc, hz]
theorem o_sB {p : Addr} {x0 : Value} {va : Option Addr} {l k : Nat} (x y : Operand) (h0 : a.eval x = .pointer (some p)) (h1 : a.eval y = .slice va l k) (ho : o.op = .store 27 x y) (hc : w.cell? p = some x0) (hz : w.frozen? p = false) : (execOp a.eval o).run Tryz.prog w = .ok .skip (w.setCell p (.slice va l k)) := by
  unfold execOp
  rw [ho]
  simp only [h0, h1]
  simp [go_sem, hc, hz]
theorem o_sP {p : Addr} {x0 : Value} {va : Option Addr} {l k : Nat} (x y : Operand) (h0 : a.eval x = .pointer (some p)) (h1 : a.eval y = .slice va l k) (ho : o.op = .store 57 x y) (hc : w.cell? p = some x0) (hz : w.frozen? p = false) : (execOp a.eval o).run Tryz.prog w = .ok .skip (w.setCell p (.slice va l k)) := by
  unfold execOp
  rw [ho]
  simp only [h0, h1]
  simp [go_sem, hc, hz]
theorem o_rm2 {f : Int} (x : Operand) (h0 : a.eval x = .int .u8 f) (hf : 0 ≤ f ∧ f < 256) (ho : o.op = .binOp .rem 5 x (.const (.int .u8 2)) 5) : (execOp a.eval o).run Tryz.prog w = .ok (.value (.int .u8 (f % 2))) w := by
  unfold execOp
  rw [ho]
  simp only [h0]
  have hr : f.tmod 2 = f % 2 := Int.tmod_eq_emod_of_nonneg hf.1
  have hw : ∀ z : Int, IntKind.u8.wrap z = z % 256 := fun _ => rfl
  have hw2 : f % 2 % 256 = f % 2 := by omega
  go_simp
theorem o_rm8 {f : Int} (x : Operand) (h0 : a.eval x = .int .u8 f) (hf : 0 ≤ f ∧ f < 256) (ho : o.op = .binOp .rem 5 x (.const (.int .u8 8)) 5) : (execOp a.eval o).run Tryz.prog w = .ok (.value (.int .u8 (f % 8))) w := by
  unfold execOp
  rw [ho]
  simp only [h0]
  have hr : f.tmod 8 = f % 8 := Int.tmod_eq_emod_of_nonneg hf.1
  have hw : ∀ z : Int, IntKind.u8.wrap z = z % 256 := fun _ => rfl
  have hw2 : f % 8 % 256 = f % 8 := by omega
  go_simp
end
theorem det_sk {P : Program} {ops : Array Oper} {Q : Exit → Act → World → Prop} {i : Nat} {o : Oper} {a : Act} {w w' : World} {u : Value} {R : World → Prop} (ho : ops[i]? = some o) (hw : Region.wanted o (yielded ops a.tmps) = true)
    (hr : (execOp a.eval o).run P w = .ok .skip w') (hd : o.dst = none) (hR : R w') : wpOp P ops Q i (fun a' w'' => a' = a.put o.dst u ∧ R w'') a w := Ord.det_skip ho hw hr hd hR
/-- what bare tells -/
def BareR (c : Ck) (w : World) (e : Ending) (w' : World) : Prop := ∃ d : Ck, e = .returned (cv d) ∧ (val c = val d ↔ OwnF (val c)) ∧ (∀ base W, Lsts base W c → Lsts base W d) ∧ Below w.heap.size w w'
theorem mod8 {f : Int} (h : 0 ≤ f ∧ f < 256) : f = f % 8 ↔ f < 8 := by omega
theorem mod2 {f : Int} (h : 0 ≤ f ∧ f < 256) : f = f % 2 ↔ f < 2 := by omega
def dlrBare3 (c : Ck) (L : Nat → Bool) : Ck := { zck 3 with tsn := if L 9 = true then c.tsn else 0, win := if L 11 = true then c.win else 0, ga := if L 13 = true then c.ga else none, gl := if L 13 = true then c.gl else 0, gc := if L 13 = true then c.gc else 0, gs := if L 13 = true then c.gs else [], da := if L 15 = true then c.da else none, dl := if L 15 = true then c.dl else 0, dc := if L 15 = true then c.dc else 0, ds := if L 15 = true then c.ds else [] }
set_option maxRecDepth 20000 in
set_option maxHeartbeats 2000000 in
theorem rBare3 (c : Ck) (w : World) (hn : Nums c) (hk : c.kind = 3) : Calls Tryz.prog 75 #[cv c] w fun e w' => BareR c w e w' := by
  have HV := hidden (show val c = val ({ zck 3 with tsn := c.tsn, win := c.win, ga := c.ga, gl := c.gl, gc := c.gc, gs := c.gs, da := c.da, dl := c.dl, dc := c.dc, ds := c.ds } : Ck) ↔ OwnF (val c) by
    have f8 := mod8 hn.2.1
    have f2 := mod2 hn.2.1
    simp only [val, zck, OwnF, FlagOk, FieldOk, Ch.mk.injEq, hk]
    simp [f8, f2])
  have HLS := hidden (show ∀ base W, Lsts base W c → Lsts base W ({ zck 3 with tsn := c.tsn, win := c.win, ga := c.ga, gl := c.gl, gc := c.gc, gs := c.gs, da := c.da, dl := c.dl, dc := c.dc, ds := c.ds } : Ck) from (fun base W h => ⟨h.1, Gaps.nil _ _ _, h.2.2.1, ⟨rfl, (fun n hn => by cases hn), Nat.zero_le _, .inl rfl⟩, (fun _ => ⟨rfl, rfl⟩), Prms.nil _ _ _⟩))
  obtain ⟨N0, N1, _⟩ := hn
  have b1 := Bx.new w c
  have b2 : Bx ((w.alloc (.cells (cc c) 59)).alloc (.cells #[.int .u8 0, .int .u8 0, .int .u32 0, .int .u16 0, .int .u16 0, .int .u32 0, .int .u32 0, .int .u32 0, .int .u16 0, .int .u16 0, .slice none 0 0, .slice none 0 0, .slice none 0 0, .slice none 0 0, .slice none 0 0] 59)) (w.heap.size + 1) (zck 0) := by
    have := Bx.new (w.alloc (.cells (cc c) 59)) (zck 0)
    rw [World.size_alloc] at this
    exact this
  obtain ⟨W, hS, hbx, hbw⟩ := newvar ((w.alloc (.cells (cc c) 59)).alloc (.cells #[.int .u8 0, .int .u8 0, .int .u32 0, .int .u16 0, .int .u16 0, .int .u32 0, .int .u32 0, .int .u32 0, .int .u16 0, .int .u16 0, .slice none 0 0, .slice none 0 0, .slice none 0 0, .slice none 0 0, .slice none 0 0] 59)) (zck c.kind)
  have hsz : ((w.alloc (.cells (cc c) 59)).alloc (.cells #[.int .u8 0, .int .u8 0, .int .u32 0, .int .u16 0, .int .u16 0, .int .u32 0, .int .u32 0, .int .u32 0, .int .u16 0, .int .u16 0, .slice none 0 0, .slice none 0 0, .slice none 0 0, .slice none 0 0, .slice none 0 0] 59)).heap.size = w.heap.size + 2 := by simp
  rw [hsz] at hS hbx hbw
  have hbb : Below w.heap.size w W := (((Below.refl _ w).alloc (Nat.le_refl _) (.cells (cc c) 59)).alloc (by simp) _).trans (hbw.mono (by omega))
  have x1 : Bx W w.heap.size c := (b1.alloc (.cells #[.int .u8 0, .int .u8 0, .int .u32 0, .int .u16 0, .int .u16 0, .int .u32 0, .int .u32 0, .int .u32 0, .int .u16 0, .int .u16 0, .slice none 0 0, .slice none 0 0, .slice none 0 0, .slice none 0 0, .slice none 0 0] 59)).later (by rw [hsz]; exact hbw)
  have x2 : Bx W (w.heap.size + 1) (zck 0) := b2.later (by rw [hsz]; exact hbw)
  have q0 := ((Bx.new w c).alloc (.cells #[.int .u8 0, .int .u8 0, .int .u32 0, .int .u16 0, .int .u16 0, .int .u32 0, .int .u32 0, .int .u32 0, .int .u16 0, .int .u16 0, .slice none 0 0, .slice none 0 0, .slice none 0 0, .slice none 0 0, .slice none 0 0] 59)).c0
  have hS' : (sto (.pointer (some ⟨w.heap.size + 2, 0, none⟩)) (.agg #[.int .u8 c.kind, .int .u8 0, .int .u32 0, .int .u16 0, .int .u16 0, .int .u32 0, .int .u32 0, .int .u32 0, .int .u16 0, .int .u16 0, .slice none 0 0, .slice none 0 0, .slice none 0 0, .slice none 0 0, .slice none 0 0])).run Tryz.prog (((w.alloc (.cells (cc c) 59)).alloc (.cells #[.int .u8 0, .int .u8 0, .int .u32 0, .int .u16 0, .int .u16 0, .int .u32 0, .int .u32 0, .int .u32 0, .int .u16 0, .int .u16 0, .slice none 0 0, .slice none 0 0, .slice none 0 0, .slice none 0 0, .slice none 0 0] 59)).alloc (.cells #[.int .u8 0, .int .u8 0, .int .u32 0, .int .u16 0, .int .u16 0, .int .u32 0, .int .u32 0, .int .u32 0, .int .u16 0, .int .u16 0, .slice none 0 0, .slice none 0 0, .slice none 0 0, .slice none 0 0, .slice none 0 0] 59)) = .ok () W := hS
  have q0' := x1.c0
  have HX1 := hidden x1
  have HX2 := hidden x2
  have HX3 := hidden hbx
  have HB := hidden hbb
  clear hS b1 b2 hbw hbb hsz x1 x2 hbx
  rw [hk] at q0 q0' hS' HX3
  go_enter Tryz.func75, Tryz.ntmps75
  go_wp2_with fail
  refine Ord.wp_region_detC (by kernel_rfl) [0, 1, 2, 3, 4, 5, 6, 7, 8, 9, 10, 11, 12, 13, 14, 15] 124 [(some 59, .pointer (some ⟨w.heap.size, 2, none⟩)), (some 60, .int .u32 c.tsn), (some 61, .pointer (some ⟨w.heap.size, 7, none⟩)), (some 62, .int .u32 c.win), (some 63, .pointer (some ⟨w.heap.size, 10, none⟩)), (some 64, .slice c.ga c.gl c.gc), (some 65, .pointer (some ⟨w.heap.size, 12, none⟩)), (some 66, .slice c.da c.dl c.dc), (some 67, .pointer (some ⟨w.heap.size + 2, 2, none⟩)), (none, undef), (some 68, .pointer (some ⟨w.heap.size + 2, 7, none⟩)), (none, undef), (some 69, .pointer (some ⟨w.heap.size + 2, 10, none⟩)), (none, undef), (some 70, .pointer (some ⟨w.heap.size + 2, 12, none⟩)), (none, undef)] rfl (by kernel_rfl) (by rfl) (by kernel_rfl) (fun L y => Bx y w.heap.size c ∧ Bx y (w.heap.size + 1) (zck 0) ∧ Bx y (w.heap.size + 2) (dlrBare3 c L) ∧ Below w.heap.size w y) ?_ ?_ ?_ ?_
  case refine_1 =>
    intro L L' y hL hW
    have e : dlrBare3 c L' = dlrBare3 c L := by unfold dlrBare3; rw [hL 9 (by decide), hL 11 (by decide), hL 13 (by decide), hL 15 (by decide)]
    rw [e]
    exact hW
  case refine_2 =>
    intro L i o ac w' ho hi hcl hdep hF hW
    have f4 := hF.2.2.2
    match i, ho, hi, hdep with
    | 0, ho, hi, hdep =>
      cases ho
      have da0 : ac.eval (.tmp 1) = .pointer (some ⟨w.heap.size, 0, none⟩) := hF.old 1 rfl
      exact Ord.det_value rfl rfl (e_fa _ da0 rfl (fa2 _ _)) rfl ⟨hW.1, hW.2.1, (by have e : dlrBare3 c (Ord.upd L 0) = dlrBare3 c L := (by unfold dlrBare3; rfl); rw [e]; exact hW.2.2.1), hW.2.2.2⟩
    | 1, ho, hi, hdep =>
      cases ho
      have da0 : ac.eval (.tmp 59) = .pointer (some ⟨w.heap.size, 2, none⟩) := f4 0 59 _ rfl (hdep ⟨0, .data⟩ (by simp) rfl)
      exact Ord.det_value rfl rfl (e_ld _ da0 rfl (ld32 _ _ _ hW.1.c2)) rfl ⟨hW.1, hW.2.1, (by have e : dlrBare3 c (Ord.upd L 1) = dlrBare3 c L := (by unfold dlrBare3; rfl); rw [e]; exact hW.2.2.1), hW.2.2.2⟩
    | 2, ho, hi, hdep =>
      cases ho
      have da0 : ac.eval (.tmp 1) = .pointer (some ⟨w.heap.size, 0, none⟩) := hF.old 1 rfl
      exact Ord.det_value rfl rfl (e_fa _ da0 rfl (fa7 _ _)) rfl ⟨hW.1, hW.2.1, (by have e : dlrBare3 c (Ord.upd L 2) = dlrBare3 c L := (by unfold dlrBare3; rfl); rw [e]; exact hW.2.2.1), hW.2.2.2⟩
    | 3, ho, hi, hdep =>
      cases ho
      have da0 : ac.eval (.tmp 61) = .pointer (some ⟨w.heap.size, 7, none⟩) := f4 2 61 _ rfl (hdep ⟨2, .data⟩ (by simp) rfl)
      exact Ord.det_value rfl rfl (e_ld _ da0 rfl (ld32 _ _ _ hW.1.c7)) rfl ⟨hW.1, hW.2.1, (by have e : dlrBare3 c (Ord.upd L 3) = dlrBare3 c L := (by unfold dlrBare3; rfl); rw [e]; exact hW.2.2.1), hW.2.2.2⟩
    | 4, ho, hi, hdep =>
      cases ho
      have da0 : ac.eval (.tmp 1) = .pointer (some ⟨w.heap.size, 0, none⟩) := hF.old 1 rfl
      exact Ord.det_value rfl rfl (e_fa _ da0 rfl (fa10 _ _)) rfl ⟨hW.1, hW.2.1, (by have e : dlrBare3 c (Ord.upd L 4) = dlrBare3 c L := (by unfold dlrBare3; rfl); rw [e]; exact hW.2.2.1), hW.2.2.2⟩
    | 5, ho, hi, hdep =>
      cases ho
      have da0 : ac.eval (.tmp 63) = .pointer (some ⟨w.heap.size, 10, none⟩) := f4 4 63 _ rfl (hdep ⟨4, .data⟩ (by simp) rfl)
      exact Ord.det_value rfl rfl (e_ld _ da0 rfl (ldG _ _ _ _ _ hW.1.c10)) rfl ⟨hW.1, hW.2.1, (by have e : dlrBare3 c (Ord.upd L 5) = dlrBare3 c L := (by unfold dlrBare3; rfl); rw [e]; exact hW.2.2.1), hW.2.2.2⟩
    | 6, ho, hi, hdep =>
      cases ho
      have da0 : ac.eval (.tmp 1) = .pointer (some ⟨w.heap.size, 0, none⟩) := hF.old 1 rfl
      exact Ord.det_value rfl rfl (e_fa _ da0 rfl (fa12 _ _)) rfl ⟨hW.1, hW.2.1, (by have e : dlrBare3 c (Ord.upd L 6) = dlrBare3 c L := (by unfold dlrBare3; rfl); rw [e]; exact hW.2.2.1), hW.2.2.2⟩
    | 7, ho, hi, hdep =>
      cases ho
      have da0 : ac.eval (.tmp 65) = .pointer (some ⟨w.heap.size, 12, none⟩) := f4 6 65 _ rfl (hdep ⟨6, .data⟩ (by simp) rfl)
      exact Ord.det_value rfl rfl (e_ld _ da0 rfl (ldD _ _ _ _ _ hW.1.c12)) rfl ⟨hW.1, hW.2.1, (by have e : dlrBare3 c (Ord.upd L 7) = dlrBare3 c L := (by unfold dlrBare3; rfl); rw [e]; exact hW.2.2.1), hW.2.2.2⟩
    | 8, ho, hi, hdep =>
      cases ho
      have da0 : ac.eval (.tmp 3) = .pointer (some ⟨w.heap.size + 2, 0, none⟩) := hF.old 3 rfl
      exact Ord.det_value rfl rfl (e_fa _ da0 rfl (fa2 _ _)) rfl ⟨hW.1, hW.2.1, (by have e : dlrBare3 c (Ord.upd L 8) = dlrBare3 c L := (by unfold dlrBare3; rfl); rw [e]; exact hW.2.2.1), hW.2.2.2⟩
    | 9, ho, hi, hdep =>
      cases ho
      have da0 : ac.eval (.tmp 67) = .pointer (some ⟨w.heap.size + 2, 2, none⟩) := f4 8 67 _ rfl (hdep ⟨8, .data⟩ (by simp) rfl)
      have da1 : ac.eval (.tmp 60) = .int .u32 c.tsn := f4 1 60 _ rfl (hdep ⟨1, .data⟩ (by simp) rfl)
      have hs := hW.2.2.1.s2 c.tsn
      have e : ({ dlrBare3 c L with tsn := c.tsn } : Ck) = dlrBare3 c (Ord.upd L 9) := by unfold dlrBare3; rfl
      rw [e] at hs
      exact det_sk rfl rfl (o_s32 _ _ da0 da1 rfl hW.2.2.1.c2 (hW.2.2.1.fr 2)) rfl ⟨hW.1.keep (by omega) _ _, hW.2.1.keep (by omega) _ _, hs, hW.2.2.2.setCell (by simp) _⟩
    | 10, ho, hi, hdep =>
      cases ho
      have da0 : ac.eval (.tmp 3) = .pointer (some ⟨w.heap.size + 2, 0, none⟩) := hF.old 3 rfl
      exact Ord.det_value rfl rfl (e_fa _ da0 rfl (fa7 _ _)) rfl ⟨hW.1, hW.2.1, (by have e : dlrBare3 c (Ord.upd L 10) = dlrBare3 c L := (by unfold dlrBare3; rfl); rw [e]; exact hW.2.2.1), hW.2.2.2⟩
    | 11, ho, hi, hdep =>
      cases ho
      have da0 : ac.eval (.tmp 68) = .pointer (some ⟨w.heap.size + 2, 7, none⟩) := f4 10 68 _ rfl (hdep ⟨10, .data⟩ (by simp) rfl)
      have da1 : ac.eval (.tmp 62) = .int .u32 c.win := f4 3 62 _ rfl (hdep ⟨3, .data⟩ (by simp) rfl)
      have hs := hW.2.2.1.s7 c.win
      have e : ({ dlrBare3 c L with win := c.win } : Ck) = dlrBare3 c (Ord.upd L 11) := by unfold dlrBare3; rfl
      rw [e] at hs
      exact det_sk rfl rfl (o_s32 _ _ da0 da1 rfl hW.2.2.1.c7 (hW.2.2.1.fr 7)) rfl ⟨hW.1.keep (by omega) _ _, hW.2.1.keep (by omega) _ _, hs, hW.2.2.2.setCell (by simp) _⟩
    | 12, ho, hi, hdep =>
      cases ho
      have da0 : ac.eval (.tmp 3) = .pointer (some ⟨w.heap.size + 2, 0, none⟩) := hF.old 3 rfl
      exact Ord.det_value rfl rfl (e_fa _ da0 rfl (fa10 _ _)) rfl ⟨hW.1, hW.2.1, (by have e : dlrBare3 c (Ord.upd L 12) = dlrBare3 c L := (by unfold dlrBare3; rfl); rw [e]; exact hW.2.2.1), hW.2.2.2⟩
    | 13, ho, hi, hdep =>
      cases ho
      have da0 : ac.eval (.tmp 69) = .pointer (some ⟨w.heap.size + 2, 10, none⟩) := f4 12 69 _ rfl (hdep ⟨12, .data⟩ (by simp) rfl)
      have da1 : ac.eval (.tmp 64) = .slice c.ga c.gl c.gc := f4 5 64 _ rfl (hdep ⟨5, .data⟩ (by simp) rfl)
      have hs := hW.2.2.1.s10 c.ga c.gl c.gc c.gs
      have e : ({ dlrBare3 c L with ga := c.ga, gl := c.gl, gc := c.gc, gs := c.gs } : Ck) = dlrBare3 c (Ord.upd L 13) := by unfold dlrBare3; rfl
      rw [e] at hs
      exact det_sk rfl rfl (o_sG _ _ da0 da1 rfl hW.2.2.1.c10 (hW.2.2.1.fr 10)) rfl ⟨hW.1.keep (by omega) _ _, hW.2.1.keep (by omega) _ _, hs, hW.2.2.2.setCell (by simp) _⟩
    | 14, ho, hi, hdep =>
      cases ho
      have da0 : ac.eval (.tmp 3) = .pointer (some ⟨w.heap.size + 2, 0, none⟩) := hF.old 3 rfl
      exact Ord.det_value rfl rfl (e_fa _ da0 rfl (fa12 _ _)) rfl ⟨hW.1, hW.2.1, (by have e : dlrBare3 c (Ord.upd L 14) = dlrBare3 c L := (by unfold dlrBare3; rfl); rw [e]; exact hW.2.2.1), hW.2.2.2⟩
    | 15, ho, hi, hdep =>
      cases ho
      have da0 : ac.eval (.tmp 70) = .pointer (some ⟨w.heap.size + 2, 12, none⟩) := f4 14 70 _ rfl (hdep ⟨14, .data⟩ (by simp) rfl)
      have da1 : ac.eval (.tmp 66) = .slice c.da c.dl c.dc := f4 7 66 _ rfl (hdep ⟨7, .data⟩ (by simp) rfl)
      have hs := hW.2.2.1.s12 c.da c.dl c.dc c.ds
      have e : ({ dlrBare3 c L with da := c.da, dl := c.dl, dc := c.dc, ds := c.ds } : Ck) = dlrBare3 c (Ord.upd L 15) := by unfold dlrBare3; rfl
      rw [e] at hs
      exact det_sk rfl rfl (o_sD _ _ da0 da1 rfl hW.2.2.1.c12 (hW.2.2.1.fr 12)) rfl ⟨hW.1.keep (by omega) _ _, hW.2.1.keep (by omega) _ _, hs, hW.2.2.2.setCell (by simp) _⟩
  case refine_4 => exact ⟨HX1.out, HX2.out, HX3.out, Par.below_drewN HB.out 1⟩
  case refine_3 =>
    intro Y hY
    rename_i Q0
    simp only [Ord.puts, Ord.prs, List.filterMap_cons, List.filterMap_nil, Option.map_some, Option.map_none, List.foldl_cons, List.foldl_nil]
    go_simp
    obtain ⟨f1, f2, f3⟩ : (sto (.pointer (some ⟨w.heap.size + 1, 0, none⟩)) (cv ({ zck 3 with tsn := c.tsn, win := c.win, ga := c.ga, gl := c.gl, gc := c.gc, gs := c.gs, da := c.da, dl := c.dl, dc := c.dc, ds := c.ds } : Ck))).run Tryz.prog Y = .ok () (stoW Y (w.heap.size + 1) ({ zck 3 with tsn := c.tsn, win := c.win, ga := c.ga, gl := c.gl, gc := c.gc, gs := c.gs, da := c.da, dl := c.dl, dc := c.dc, ds := c.ds })) ∧ Bx (stoW Y (w.heap.size + 1) ({ zck 3 with tsn := c.tsn, win := c.win, ga := c.ga, gl := c.gl, gc := c.gc, gs := c.gs, da := c.da, dl := c.dl, dc := c.dc, ds := c.ds })) (w.heap.size + 1) ({ zck 3 with tsn := c.tsn, win := c.win, ga := c.ga, gl := c.gl, gc := c.gc, gs := c.gs, da := c.da, dl := c.dl, dc := c.dc, ds := c.ds }) ∧ Below w.heap.size w (stoW Y (w.heap.size + 1) ({ zck 3 with tsn := c.tsn, win := c.win, ga := c.ga, gl := c.gl, gc := c.gc, gs := c.gs, da := c.da, dl := c.dl, dc := c.dc, ds := c.ds })) := ⟨sto_run hY.2.1 _, stoW_bx hY.2.1 _, stoW_below _ hY.2.2.2 (by omega)⟩
    have l3 : (ld (.pointer (some ⟨w.heap.size + 2, 0, none⟩))).run Tryz.prog Y = .ok (cv ({ zck 3 with tsn := c.tsn, win := c.win, ga := c.ga, gl := c.gl, gc := c.gc, gs := c.gs, da := c.da, dl := c.dl, dc := c.dc, ds := c.ds } : Ck)) Y := hY.2.2.1.ld
    have F2 := hidden f2
    have F3 := hidden f3
    clear f2 f3 hY
    go_wp2
    exact bodyPost_ret (v := cv ({ zck 3 with tsn := c.tsn, win := c.win, ga := c.ga, gl := c.gl, gc := c.gc, gs := c.gs, da := c.da, dl := c.dl, dc := c.dc, ds := c.ds })) (cell_res Tryz.results75 F2.out _ rfl) rfl ⟨_, rfl, HV.out, HLS.out, F3.out⟩
def dlrBare0 (c : Ck) (L : Nat → Bool) : Ck := { zck 0 with flags := if L 14 = true then c.flags % 8 else 0, tsn := if L 16 = true then c.tsn else 0, stream := if L 18 = true then c.stream else 0, ssn := if L 20 = true then c.ssn else 0, proto := if L 22 = true then c.proto else 0, ba := if L 24 = true then c.ba else none, bl := if L 24 = true then c.bl else 0, bc := if L 24 = true then c.bc else 0, bs := if L 24 = true then c.bs else [] }
set_option maxRecDepth 20000 in
set_option maxHeartbeats 2000000 in
theorem rBare0 (c : Ck) (w : World) (hn : Nums c) (hk : c.kind = 0) : Calls Tryz.prog 75 #[cv c] w fun e w' => BareR c w e w' := by
  have HV := hidden (show val c = val ({ zck 0 with flags := c.flags % 8, tsn := c.tsn, stream := c.stream, ssn := c.ssn, proto := c.proto, ba := c.ba, bl := c.bl, bc := c.bc, bs := c.bs } : Ck) ↔ OwnF (val c) by
    have f8 := mod8 hn.2.1
    have f2 := mod2 hn.2.1
    simp only [val, zck, OwnF, FlagOk, FieldOk, Ch.mk.injEq, hk]
    simp [f8, f2])
  have HLS := hidden (show ∀ base W, Lsts base W c → Lsts base W ({ zck 0 with flags := c.flags % 8, tsn := c.tsn, stream := c.stream, ssn := c.ssn, proto := c.proto, ba := c.ba, bl := c.bl, bc := c.bc, bs := c.bs } : Ck) from (fun base W h => ⟨Gaps.nil _ _ _, Gaps.nil _ _ _, Fours.nil _ _ _, h.2.2.2.1, h.2.2.2.2.1, Prms.nil _ _ _⟩))
  obtain ⟨N0, N1, _⟩ := hn
  have b1 := Bx.new w c
  have b2 : Bx ((w.alloc (.cells (cc c) 59)).alloc (.cells #[.int .u8 0, .int .u8 0, .int .u32 0, .int .u16 0, .int .u16 0, .int .u32 0, .int .u32 0, .int .u32 0, .int .u16 0, .int .u16 0, .slice none 0 0, .slice none 0 0, .slice none 0 0, .slice none 0 0, .slice none 0 0] 59)) (w.heap.size + 1) (zck 0) := by
    have := Bx.new (w.alloc (.cells (cc c) 59)) (zck 0)
    rw [World.size_alloc] at this
    exact this
  obtain ⟨W, hS, hbx, hbw⟩ := newvar ((w.alloc (.cells (cc c) 59)).alloc (.cells #[.int .u8 0, .int .u8 0, .int .u32 0, .int .u16 0, .int .u16 0, .int .u32 0, .int .u32 0, .int .u32 0, .int .u16 0, .int .u16 0, .slice none 0 0, .slice none 0 0, .slice none 0 0, .slice none 0 0, .slice none 0 0] 59)) (zck c.kind)
  have hsz : ((w.alloc (.cells (cc c) 59)).alloc (.cells #[.int .u8 0, .int .u8 0, .int .u32 0, .int .u16 0, .int .u16 0, .int .u32 0, .int .u32 0, .int .u32 0, .int .u16 0, .int .u16 0, .slice none 0 0, .slice none 0 0, .slice none 0 0, .slice none 0 0, .slice none 0 0] 59)).heap.size = w.heap.size + 2 := by simp
  rw [hsz] at hS hbx hbw
  have hbb : Below w.heap.size w W := (((Below.refl _ w).alloc (Nat.le_refl _) (.cells (cc c) 59)).alloc (by simp) _).trans (hbw.mono (by omega))
  have x1 : Bx W w.heap.size c := (b1.alloc (.cells #[.int .u8 0, .int .u8 0, .int .u32 0, .int .u16 0, .int .u16 0, .int .u32 0, .int .u32 0, .int .u32 0, .int .u16 0, .int .u16 0, .slice none 0 0, .slice none 0 0, .slice none 0 0, .slice none 0 0, .slice none 0 0] 59)).later (by rw [hsz]; exact hbw)
  have x2 : Bx W (w.heap.size + 1) (zck 0) := b2.later (by rw [hsz]; exact hbw)
  have q0 := ((Bx.new w c).alloc (.cells #[.int .u8 0, .int .u8 0, .int .u32 0, .int .u16 0, .int .u16 0, .int .u32 0, .int .u32 0, .int .u32 0, .int .u16 0, .int .u16 0, .slice none 0 0, .slice none 0 0, .slice none 0 0, .slice none 0 0, .slice none 0 0] 59)).c0
  have hS' : (sto (.pointer (some ⟨w.heap.size + 2, 0, none⟩)) (.agg #[.int .u8 c.kind, .int .u8 0, .int .u32 0, .int .u16 0, .int .u16 0, .int .u32 0, .int .u32 0, .int .u32 0, .int .u16 0, .int .u16 0, .slice none 0 0, .slice none 0 0, .slice none 0 0, .slice none 0 0, .slice none 0 0])).run Tryz.prog (((w.alloc (.cells (cc c) 59)).alloc (.cells #[.int .u8 0, .int .u8 0, .int .u32 0, .int .u16 0, .int .u16 0, .int .u32 0, .int .u32 0, .int .u32 0, .int .u16 0, .int .u16 0, .slice none 0 0, .slice none 0 0, .slice none 0 0, .slice none 0 0, .slice none 0 0] 59)).alloc (.cells #[.int .u8 0, .int .u8 0, .int .u32 0, .int .u16 0, .int .u16 0, .int .u32 0, .int .u32 0, .int .u32 0, .int .u16 0, .int .u16 0, .slice none 0 0, .slice none 0 0, .slice none 0 0, .slice none 0 0, .slice none 0 0] 59)) = .ok () W := hS
  have q0' := x1.c0
  have HX1 := hidden x1
  have HX2 := hidden x2
  have HX3 := hidden hbx
  have HB := hidden hbb
  clear hS b1 b2 hbw hbb hsz x1 x2 hbx
  rw [hk] at q0 q0' hS' HX3
  go_enter Tryz.func75, Tryz.ntmps75
  go_wp2_with fail
  refine Ord.wp_region_detC (by kernel_rfl) [0, 1, 2, 3, 4, 5, 6, 7, 8, 9, 10, 11, 12, 13, 14, 15, 16, 17, 18, 19, 20, 21, 22, 23, 24] 124 [(some 17, .pointer (some ⟨w.heap.size, 1, none⟩)), (some 18, .int .u8 c.flags), (some 19, .int .u8 (c.flags % 8)), (some 20, .pointer (some ⟨w.heap.size, 2, none⟩)), (some 21, .int .u32 c.tsn), (some 22, .pointer (some ⟨w.heap.size, 3, none⟩)), (some 23, .int .u16 c.stream), (some 24, .pointer (some ⟨w.heap.size, 4, none⟩)), (some 25, .int .u16 c.ssn), (some 26, .pointer (some ⟨w.heap.size, 5, none⟩)), (some 27, .int .u32 c.proto), (some 28, .pointer (some ⟨w.heap.size, 13, none⟩)), (some 29, .slice c.ba c.bl c.bc), (some 30, .pointer (some ⟨w.heap.size + 2, 1, none⟩)), (none, undef), (some 31, .pointer (some ⟨w.heap.size + 2, 2, none⟩)), (none, undef), (some 32, .pointer (some ⟨w.heap.size + 2, 3, none⟩)), (none, undef), (some 33, .pointer (some ⟨w.heap.size + 2, 4, none⟩)), (none, undef), (some 34, .pointer (some ⟨w.heap.size + 2, 5, none⟩)), (none, undef), (some 35, .pointer (some ⟨w.heap.size + 2, 13, none⟩)), (none, undef)] rfl (by kernel_rfl) (by rfl) (by kernel_rfl) (fun L y => Bx y w.heap.size c ∧ Bx y (w.heap.size + 1) (zck 0) ∧ Bx y (w.heap.size + 2) (dlrBare0 c L) ∧ Below w.heap.size w y) ?_ ?_ ?_ ?_
  case refine_1 =>
    intro L L' y hL hW
    have e : dlrBare0 c L' = dlrBare0 c L := by unfold dlrBare0; rw [hL 14 (by decide), hL 16 (by decide), hL 18 (by decide), hL 20 (by decide), hL 22 (by decide), hL 24 (by decide)]
    rw [e]
    exact hW
  case refine_2 =>
    intro L i o ac w' ho hi hcl hdep hF hW
    have f4 := hF.2.2.2
    match i, ho, hi, hdep with
    | 0, ho, hi, hdep =>
      cases ho
      have da0 : ac.eval (.tmp 1) = .pointer (some ⟨w.heap.size, 0, none⟩) := hF.old 1 rfl
      exact Ord.det_value rfl rfl (e_fa _ da0 rfl (fa1 _ _)) rfl ⟨hW.1, hW.2.1, (by have e : dlrBare0 c (Ord.upd L 0) = dlrBare0 c L := (by unfold dlrBare0; rfl); rw [e]; exact hW.2.2.1), hW.2.2.2⟩
    | 1, ho, hi, hdep =>
      cases ho
      have da0 : ac.eval (.tmp 17) = .pointer (some ⟨w.heap.size, 1, none⟩) := f4 0 17 _ rfl (hdep ⟨0, .data⟩ (by simp) rfl)
      exact Ord.det_value rfl rfl (e_ld _ da0 rfl (ld8 _ _ _ hW.1.c1)) rfl ⟨hW.1, hW.2.1, (by have e : dlrBare0 c (Ord.upd L 1) = dlrBare0 c L := (by unfold dlrBare0; rfl); rw [e]; exact hW.2.2.1), hW.2.2.2⟩
    | 2, ho, hi, hdep =>
      cases ho
      have da0 : ac.eval (.tmp 18) = .int .u8 c.flags := f4 1 18 _ rfl (hdep ⟨1, .data⟩ (by simp) rfl)
      exact Ord.det_value rfl rfl (o_rm8 _ da0 N1 rfl) rfl ⟨hW.1, hW.2.1, (by have e : dlrBare0 c (Ord.upd L 2) = dlrBare0 c L := (by unfold dlrBare0; rfl); rw [e]; exact hW.2.2.1), hW.2.2.2⟩
    | 3, ho, hi, hdep =>
      cases ho
      have da0 : ac.eval (.tmp 1) = .pointer (some ⟨w.heap.size, 0, none⟩) := hF.old 1 rfl
      exact Ord.det_value rfl rfl (e_fa _ da0 rfl (fa2 _ _)) rfl ⟨hW.1, hW.2.1, (by have e : dlrBare0 c (Ord.upd L 3) = dlrBare0 c L := (by unfold dlrBare0; rfl); rw [e]; exact hW.2.2.1), hW.2.2.2⟩
    | 4, ho, hi, hdep =>
      cases ho
      have da0 : ac.eval (.tmp 20) = .pointer (some ⟨w.heap.size, 2, none⟩) := f4 3 20 _ rfl (hdep ⟨3, .data⟩ (by simp) rfl)
      exact Ord.det_value rfl rfl (e_ld _ da0 rfl (ld32 _ _ _ hW.1.c2)) rfl ⟨hW.1, hW.2.1, (by have e : dlrBare0 c (Ord.upd L 4) = dlrBare0 c L := (by unfold dlrBare0; rfl); rw [e]; exact hW.2.2.1), hW.2.2.2⟩
    | 5, ho, hi, hdep =>
      cases ho
      have da0 : ac.eval (.tmp 1) = .pointer (some ⟨w.heap.size, 0, none⟩) := hF.old 1 rfl
      exact Ord.det_value rfl rfl (e_fa _ da0 rfl (fa3 _ _)) rfl ⟨hW.1, hW.2.1, (by have e : dlrBare0 c (Ord.upd L 5) = dlrBare0 c L := (by unfold dlrBare0; rfl); rw [e]; exact hW.2.2.1), hW.2.2.2⟩
    | 6, ho, hi, hdep =>
      cases ho
      have da0 : ac.eval (.tmp 22) = .pointer (some ⟨w.heap.size, 3, none⟩) := f4 5 22 _ rfl (hdep ⟨5, .data⟩ (by simp) rfl)
      exact Ord.det_value rfl rfl (e_ld _ da0 rfl (ld16 _ _ _ hW.1.c3)) rfl ⟨hW.1, hW.2.1, (by have e : dlrBare0 c (Ord.upd L 6) = dlrBare0 c L := (by unfold dlrBare0; rfl); rw [e]; exact hW.2.2.1), hW.2.2.2⟩
    | 7, ho, hi, hdep =>
      cases ho
      have da0 : ac.eval (.tmp 1) = .pointer (some ⟨w.heap.size, 0, none⟩) := hF.old 1 rfl
      exact Ord.det_value rfl rfl (e_fa _ da0 rfl (fa4 _ _)) rfl ⟨hW.1, hW.2.1, (by have e : dlrBare0 c (Ord.upd L 7) = dlrBare0 c L := (by unfold dlrBare0; rfl); rw [e]; exact hW.2.2.1), hW.2.2.2⟩
    | 8, ho, hi, hdep =>
      cases ho
      have da0 : ac.eval (.tmp 24) = .pointer (some ⟨w.heap.size, 4, none⟩) := f4 7 24 _ rfl (hdep ⟨7, .data⟩ (by simp) rfl)
      exact Ord.det_value rfl rfl (e_ld _ da0 rfl (ld16 _ _ _ hW.1.c4)) rfl ⟨hW.1, hW.2.1, (by have e : dlrBare0 c (Ord.upd L 8) = dlrBare0 c L := (by unfold dlrBare0; rfl); rw [e]; exact hW.2.2.1), hW.2.2.2⟩
    | 9, ho, hi, hdep =>
      cases ho
      have da0 : ac.eval (.tmp 1) = .pointer (some ⟨w.heap.size, 0, none⟩) := hF.old 1 rfl
      exact Ord.det_value rfl rfl (e_fa _ da0 rfl (fa5 _ _)) rfl ⟨hW.1, hW.2.1, (by have e : dlrBare0 c (Ord.upd L 9) = dlrBare0 c L := (by unfold dlrBare0; rfl); rw [e]; exact hW.2.2.1), hW.2.2.2⟩
    | 10, ho, hi, hdep =>
      cases ho
      have da0 : ac.eval (.tmp 26) = .pointer (some ⟨w.heap.size, 5, none⟩) := f4 9 26 _ rfl (hdep ⟨9, .data⟩ (by simp) rfl)
      exact Ord.det_value rfl rfl (e_ld _ da0 rfl (ld32 _ _ _ hW.1.c5)) rfl ⟨hW.1, hW.2.1, (by have e : dlrBare0 c (Ord.upd L 10) = dlrBare0 c L := (by unfold dlrBare0; rfl); rw [e]; exact hW.2.2.1), hW.2.2.2⟩
    | 11, ho, hi, hdep =>
      cases ho
      have da0 : ac.eval (.tmp 1) = .pointer (some ⟨w.heap.size, 0, none⟩) := hF.old 1 rfl
      exact Ord.det_value rfl rfl (e_fa _ da0 rfl (fa13 _ _)) rfl ⟨hW.1, hW.2.1, (by have e : dlrBare0 c (Ord.upd L 11) = dlrBare0 c L := (by unfold dlrBare0; rfl); rw [e]; exact hW.2.2.1), hW.2.2.2⟩
    | 12, ho, hi, hdep =>
      cases ho
      have da0 : ac.eval (.tmp 28) = .pointer (some ⟨w.heap.size, 13, none⟩) := f4 11 28 _ rfl (hdep ⟨11, .data⟩ (by simp) rfl)
      exact Ord.det_value rfl rfl (e_ld _ da0 rfl (ldB _ _ _ _ _ hW.1.c13)) rfl ⟨hW.1, hW.2.1, (by have e : dlrBare0 c (Ord.upd L 12) = dlrBare0 c L := (by unfold dlrBare0; rfl); rw [e]; exact hW.2.2.1), hW.2.2.2⟩
    | 13, ho, hi, hdep =>
      cases ho
      have da0 : ac.eval (.tmp 3) = .pointer (some ⟨w.heap.size + 2, 0, none⟩) := hF.old 3 rfl
      exact Ord.det_value rfl rfl (e_fa _ da0 rfl (fa1 _ _)) rfl ⟨hW.1, hW.2.1, (by have e : dlrBare0 c (Ord.upd L 13) = dlrBare0 c L := (by unfold dlrBare0; rfl); rw [e]; exact hW.2.2.1), hW.2.2.2⟩
    | 14, ho, hi, hdep =>
      cases ho
      have da0 : ac.eval (.tmp 30) = .pointer (some ⟨w.heap.size + 2, 1, none⟩) := f4 13 30 _ rfl (hdep ⟨13, .data⟩ (by simp) rfl)
      have da1 : ac.eval (.tmp 19) = .int .u8 (c.flags % 8) := f4 2 19 _ rfl (hdep ⟨2, .data⟩ (by simp) rfl)
      have hs := hW.2.2.1.s1 (c.flags % 8)
      have e : ({ dlrBare0 c L with flags := c.flags % 8 } : Ck) = dlrBare0 c (Ord.upd L 14) := by unfold dlrBare0; rfl
      rw [e] at hs
      exact det_sk rfl rfl (o_s8 _ _ da0 da1 rfl hW.2.2.1.c1 (hW.2.2.1.fr 1)) rfl ⟨hW.1.keep (by omega) _ _, hW.2.1.keep (by omega) _ _, hs, hW.2.2.2.setCell (by simp) _⟩
    | 15, ho, hi, hdep =>
      cases ho
      have da0 : ac.eval (.tmp 3) = .pointer (some ⟨w.heap.size + 2, 0, none⟩) := hF.old 3 rfl
      exact Ord.det_value rfl rfl (e_fa _ da0 rfl (fa2 _ _)) rfl ⟨hW.1, hW.2.1, (by have e : dlrBare0 c (Ord.upd L 15) = dlrBare0 c L := (by unfold dlrBare0; rfl); rw [e]; exact hW.2.2.1), hW.2.2.2⟩
    | 16, ho, hi, hdep =>
      cases ho
      have da0 : ac.eval (.tmp 31) = .pointer (some ⟨w.heap.size + 2, 2, none⟩) := f4 15 31 _ rfl (hdep ⟨15, .data⟩ (by simp) rfl)
      have da1 : ac.eval (.tmp 21) = .int .u32 c.tsn := f4 4 21 _ rfl (hdep ⟨4, .data⟩ (by simp) rfl)
      have hs := hW.2.2.1.s2 c.tsn
      have e : ({ dlrBare0 c L with tsn := c.tsn } : Ck) = dlrBare0 c (Ord.upd L 16) := by unfold dlrBare0; rfl
      rw [e] at hs
      exact det_sk rfl rfl (o_s32 _ _ da0 da1 rfl hW.2.2.1.c2 (hW.2.2.1.fr 2)) rfl ⟨hW.1.keep (by omega) _ _, hW.2.1.keep (by omega) _ _, hs, hW.2.2.2.setCell (by simp) _⟩
    | 17, ho, hi, hdep =>
      cases ho
      have da0 : ac.eval (.tmp 3) = .pointer (some ⟨w.heap.size + 2, 0, none⟩) := hF.old 3 rfl
      exact Ord.det_value rfl rfl (e_fa _ da0 rfl (fa3 _ _)) rfl ⟨hW.1, hW.2.1, (by have e : dlrBare0 c (Ord.upd L 17) = dlrBare0 c L := (by unfold dlrBare0; rfl); rw [e]; exact hW.2.2.1), hW.2.2.2⟩
    | 18, ho, hi, hdep =>
      cases ho
      have da0 : ac.eval (.tmp 32) = .pointer (some ⟨w.heap.size + 2, 3, none⟩) := f4 17 32 _ rfl (hdep ⟨17, .data⟩ (by simp) rfl)
      have da1 : ac.eval (.tmp 23) = .int .u16 c.stream := f4 6 23 _ rfl (hdep ⟨6, .data⟩ (by simp) rfl)
      have hs := hW.2.2.1.s3 c.stream
      have e : ({ dlrBare0 c L with stream := c.stream } : Ck) = dlrBare0 c (Ord.upd L 18) := by unfold dlrBare0; rfl
      rw [e] at hs
      exact det_sk rfl rfl (o_s16 _ _ da0 da1 rfl hW.2.2.1.c3 (hW.2.2.1.fr 3)) rfl ⟨hW.1.keep (by omega) _ _, hW.2.1.keep (by omega) _ _, hs, hW.2.2.2.setCell (by simp) _⟩
    | 19, ho, hi, hdep =>
      cases ho
      have da0 : ac.eval (.tmp 3) = .pointer (some ⟨w.heap.size + 2, 0, none⟩) := hF.old 3 rfl
      exact Ord.det_value rfl rfl (e_fa _ da0 rfl (fa4 _ _)) rfl ⟨hW.1, hW.2.1, (by have e : dlrBare0 c (Ord.upd L 19) = dlrBare0 c L := (by unfold dlrBare0; rfl); rw [e]; exact hW.2.2.1), hW.2.2.2⟩
    | 20, ho, hi, hdep =>
      cases ho
      have da0 : ac.eval (.tmp 33) = .pointer (some ⟨w.heap.size + 2, 4, none⟩) := f4 19 33 _ rfl (hdep ⟨19, .data⟩ (by simp) rfl)
      have da1 : ac.eval (.tmp 25) = .int .u16 c.ssn := f4 8 25 _ rfl (hdep ⟨8, .data⟩ (by simp) rfl)
      have hs := hW.2.2.1.s4 c.ssn
      have e : ({ dlrBare0 c L with ssn := c.ssn } : Ck) = dlrBare0 c (Ord.upd L 20) := by unfold dlrBare0; rfl
      rw [e] at hs
      exact det_sk rfl rfl (o_s16 _ _ da0 da1 rfl hW.2.2.1.c4 (hW.2.2.1.fr 4)) rfl ⟨hW.1.keep (by omega) _ _, hW.2.1.keep (by omega) _ _, hs, hW.2.2.2.setCell (by simp) _⟩
    | 21, ho, hi, hdep =>
      cases ho
      have da0 : ac.eval (.tmp 3) = .pointer (some ⟨w.heap.size + 2, 0, none⟩) := hF.old 3 rfl
      exact Ord.det_value rfl rfl (e_fa _ da0 rfl (fa5 _ _)) rfl ⟨hW.1, hW.2.1, (by have e : dlrBare0 c (Ord.upd L 21) = dlrBare0 c L := (by unfold dlrBare0; rfl); rw [e]; exact hW.2.2.1), hW.2.2.2⟩
    | 22, ho, hi, hdep =>
      cases ho
      have da0 : ac.eval (.tmp 34) = .pointer (some ⟨w.heap.size + 2, 5, none⟩) := f4 21 34 _ rfl (hdep ⟨21, .data⟩ (by simp) rfl)
      have da1 : ac.eval (.tmp 27) = .int .u32 c.proto := f4 10 27 _ rfl (hdep ⟨10, .data⟩ (by simp) rfl)
      have hs := hW.2.2.1.s5 c.proto
      have e : ({ dlrBare0 c L with proto := c.proto } : Ck) = dlrBare0 c (Ord.upd L 22) := by unfold dlrBare0; rfl
      rw [e] at hs
      exact det_sk rfl rfl (o_s32 _ _ da0 da1 rfl hW.2.2.1.c5 (hW.2.2.1.fr 5)) rfl ⟨hW.1.keep (by omega) _ _, hW.2.1.keep (by omega) _ _, hs, hW.2.2.2.setCell (by simp) _⟩
    | 23, ho, hi, hdep =>
      cases ho
      have da0 : ac.eval (.tmp 3) = .pointer (some ⟨w.heap.size + 2, 0, none⟩) := hF.old 3 rfl
      exact Ord.det_value rfl rfl (e_fa _ da0 rfl (fa13 _ _)) rfl ⟨hW.1, hW.2.1, (by have e : dlrBare0 c (Ord.upd L 23) = dlrBare0 c L := (by unfold dlrBare0; rfl); rw [e]; exact hW.2.2.1), hW.2.2.2⟩
    | 24, ho, hi, hdep =>
      cases ho
      have da0 : ac.eval (.tmp 35) = .pointer (some ⟨w.heap.size + 2, 13, none⟩) := f4 23 35 _ rfl (hdep ⟨23, .data⟩ (by simp) rfl)
      have da1 : ac.eval (.tmp 29) = .slice c.ba c.bl c.bc := f4 12 29 _ rfl (hdep ⟨12, .data⟩ (by simp) rfl)
      have hs := hW.2.2.1.s13 c.ba c.bl c.bc c.bs
      have e : ({ dlrBare0 c L with ba := c.ba, bl := c.bl, bc := c.bc, bs := c.bs } : Ck) = dlrBare0 c (Ord.upd L 24) := by unfold dlrBare0; rfl
      rw [e] at hs
      exact det_sk rfl rfl (o_sB _ _ da0 da1 rfl hW.2.2.1.c13 (hW.2.2.1.fr 13)) rfl ⟨hW.1.keep (by omega) _ _, hW.2.1.keep (by omega) _ _, hs, hW.2.2.2.setCell (by simp) _⟩
  case refine_4 => exact ⟨HX1.out, HX2.out, HX3.out, Par.below_drewN HB.out 1⟩
  case refine_3 =>
    intro Y hY
    rename_i Q0
    simp only [Ord.puts, Ord.prs, List.filterMap_cons, List.filterMap_nil, Option.map_some, Option.map_none, List.foldl_cons, List.foldl_nil]
    go_simp
    obtain ⟨f1, f2, f3⟩ : (sto (.pointer (some ⟨w.heap.size + 1, 0, none⟩)) (cv ({ zck 0 with flags := c.flags % 8, tsn := c.tsn, stream := c.stream, ssn := c.ssn, proto := c.proto, ba := c.ba, bl := c.bl, bc := c.bc, bs := c.bs } : Ck))).run Tryz.prog Y = .ok () (stoW Y (w.heap.size + 1) ({ zck 0 with flags := c.flags % 8, tsn := c.tsn, stream := c.stream, ssn := c.ssn, proto := c.proto, ba := c.ba, bl := c.bl, bc := c.bc, bs := c.bs })) ∧ Bx (stoW Y (w.heap.size + 1) ({ zck 0 with flags := c.flags % 8, tsn := c.tsn, stream := c.stream, ssn := c.ssn, proto := c.proto, ba := c.ba, bl := c.bl, bc := c.bc, bs := c.bs })) (w.heap.size + 1) ({ zck 0 with flags := c.flags % 8, tsn := c.tsn, stream := c.stream, ssn := c.ssn, proto := c.proto, ba := c.ba, bl := c.bl, bc := c.bc, bs := c.bs }) ∧ Below w.heap.size w (stoW Y (w.heap.size + 1) ({ zck 0 with flags := c.flags % 8, tsn := c.tsn, stream := c.stream, ssn := c.ssn, proto := c.proto, ba := c.ba, bl := c.bl, bc := c.bc, bs := c.bs })) := ⟨sto_run hY.2.1 _, stoW_bx hY.2.1 _, stoW_below _ hY.2.2.2 (by omega)⟩
    have l3 : (ld (.pointer (some ⟨w.heap.size + 2, 0, none⟩))).run Tryz.prog Y = .ok (cv ({ zck 0 with flags := c.flags % 8, tsn := c.tsn, stream := c.stream, ssn := c.ssn, proto := c.proto, ba := c.ba, bl := c.bl, bc := c.bc, bs := c.bs } : Ck)) Y := hY.2.2.1.ld
    have F2 := hidden f2
    have F3 := hidden f3
    clear f2 f3 hY
    go_wp2
    exact bodyPost_ret (v := cv ({ zck 0 with flags := c.flags % 8, tsn := c.tsn, stream := c.stream, ssn := c.ssn, proto := c.proto, ba := c.ba, bl := c.bl, bc := c.bc, bs := c.bs })) (cell_res Tryz.results75 F2.out _ rfl) rfl ⟨_, rfl, HV.out, HLS.out, F3.out⟩
def dlrBare1 (c : Ck) (L : Nat → Bool) : Ck := { zck 1 with tag := if L 13 = true then c.tag else 0, win := if L 15 = true then c.win else 0, out := if L 17 = true then c.out else 0, inn := if L 19 = true then c.inn else 0, tsn := if L 21 = true then c.tsn else 0, pa := if L 23 = true then c.pa else none, pl := if L 23 = true then c.pl else 0, pc := if L 23 = true then c.pc else 0, ps := if L 23 = true then c.ps else [] }
set_option maxRecDepth 20000 in
set_option maxHeartbeats 2000000 in
theorem rBare1 (c : Ck) (w : World) (hn : Nums c) (hk : c.kind = 1) : Calls Tryz.prog 75 #[cv c] w fun e w' => BareR c w e w' := by
  have HV := hidden (show val c = val ({ zck 1 with tag := c.tag, win := c.win, out := c.out, inn := c.inn, tsn := c.tsn, pa := c.pa, pl := c.pl, pc := c.pc, ps := c.ps } : Ck) ↔ OwnF (val c) by
    have f8 := mod8 hn.2.1
    have f2 := mod2 hn.2.1
    simp only [val, zck, OwnF, FlagOk, FieldOk, Ch.mk.injEq, hk]
    simp [f8, f2])
  have HLS := hidden (show ∀ base W, Lsts base W c → Lsts base W ({ zck 1 with tag := c.tag, win := c.win, out := c.out, inn := c.inn, tsn := c.tsn, pa := c.pa, pl := c.pl, pc := c.pc, ps := c.ps } : Ck) from (fun base W h => ⟨Gaps.nil _ _ _, Gaps.nil _ _ _, Fours.nil _ _ _, ⟨rfl, (fun n hn => by cases hn), Nat.zero_le _, .inl rfl⟩, (fun _ => ⟨rfl, rfl⟩), h.2.2.2.2.2⟩))
  obtain ⟨N0, N1, _⟩ := hn
  have b1 := Bx.new w c
  have b2 : Bx ((w.alloc (.cells (cc c) 59)).alloc (.cells #[.int .u8 0, .int .u8 0, .int .u32 0, .int .u16 0, .int .u16 0, .int .u32 0, .int .u32 0, .int .u32 0, .int .u16 0, .int .u16 0, .slice none 0 0, .slice none 0 0, .slice none 0 0, .slice none 0 0, .slice none 0 0] 59)) (w.heap.size + 1) (zck 0) := by
    have := Bx.new (w.alloc (.cells (cc c) 59)) (zck 0)
    rw [World.size_alloc] at this
    exact this
  obtain ⟨W, hS, hbx, hbw⟩ := newvar ((w.alloc (.cells (cc c) 59)).alloc (.cells #[.int .u8 0, .int .u8 0, .int .u32 0, .int .u16 0, .int .u16 0, .int .u32 0, .int .u32 0, .int .u32 0, .int .u16 0, .int .u16 0, .slice none 0 0, .slice none 0 0, .slice none 0 0, .slice none 0 0, .slice none 0 0] 59)) (zck c.kind)
  have hsz : ((w.alloc (.cells (cc c) 59)).alloc (.cells #[.int .u8 0, .int .u8 0, .int .u32 0, .int .u16 0, .int .u16 0, .int .u32 0, .int .u32 0, .int .u32 0, .int .u16 0, .int .u16 0, .slice none 0 0, .slice none 0 0, .slice none 0 0, .slice none 0 0, .slice none 0 0] 59)).heap.size = w.heap.size + 2 := by simp
  rw [hsz] at hS hbx hbw
  have hbb : Below w.heap.size w W := (((Below.refl _ w).alloc (Nat.le_refl _) (.cells (cc c) 59)).alloc (by simp) _).trans (hbw.mono (by omega))
  have x1 : Bx W w.heap.size c := (b1.alloc (.cells #[.int .u8 0, .int .u8 0, .int .u32 0, .int .u16 0, .int .u16 0, .int .u32 0, .int .u32 0, .int .u32 0, .int .u16 0, .int .u16 0, .slice none 0 0, .slice none 0 0, .slice none 0 0, .slice none 0 0, .slice none 0 0] 59)).later (by rw [hsz]; exact hbw)
  have x2 : Bx W (w.heap.size + 1) (zck 0) := b2.later (by rw [hsz]; exact hbw)
  have q0 := ((Bx.new w c).alloc (.cells #[.int .u8 0, .int .u8 0, .int .u32 0, .int .u16 0, .int .u16 0, .int .u32 0, .int .u32 0, .int .u32 0, .int .u16 0, .int .u16 0, .slice none 0 0, .slice none 0 0, .slice none 0 0, .slice none 0 0, .slice none 0 0] 59)).c0
  have hS' : (sto (.pointer (some ⟨w.heap.size + 2, 0, none⟩)) (.agg #[.int .u8 c.kind, .int .u8 0, .int .u32 0, .int .u16 0, .int .u16 0, .int .u32 0, .int .u32 0, .int .u32 0, .int .u16 0, .int .u16 0, .slice none 0 0, .slice none 0 0, .slice none 0 0, .slice none 0 0, .slice none 0 0])).run Tryz.prog (((w.alloc (.cells (cc c) 59)).alloc (.cells #[.int .u8 0, .int .u8 0, .int .u32 0, .int .u16 0, .int .u16 0, .int .u32 0, .int .u32 0, .int .u32 0, .int .u16 0, .int .u16 0, .slice none 0 0, .slice none 0 0, .slice none 0 0, .slice none 0 0, .slice none 0 0] 59)).alloc (.cells #[.int .u8 0, .int .u8 0, .int .u32 0, .int .u16 0, .int .u16 0, .int .u32 0, .int .u32 0, .int .u32 0, .int .u16 0, .int .u16 0, .slice none 0 0, .slice none 0 0, .slice none 0 0, .slice none 0 0, .slice none 0 0] 59)) = .ok () W := hS
  have q0' := x1.c0
  have HX1 := hidden x1
  have HX2 := hidden x2
  have HX3 := hidden hbx
  have HB := hidden hbb
  clear hS b1 b2 hbw hbb hsz x1 x2 hbx
  rw [hk] at q0 q0' hS' HX3
  go_enter Tryz.func75, Tryz.ntmps75
  go_wp2_with fail
  refine Ord.wp_region_detC (by kernel_rfl) [0, 1, 2, 3, 4, 5, 6, 7, 8, 9, 10, 11, 12, 13, 14, 15, 16, 17, 18, 19, 20, 21, 22, 23] 124 [(some 39, .pointer (some ⟨w.heap.size, 6, none⟩)), (some 40, .int .u32 c.tag), (some 41, .pointer (some ⟨w.heap.size, 7, none⟩)), (some 42, .int .u32 c.win), (some 43, .pointer (some ⟨w.heap.size, 8, none⟩)), (some 44, .int .u16 c.out), (some 45, .pointer (some ⟨w.heap.size, 9, none⟩)), (some 46, .int .u16 c.inn), (some 47, .pointer (some ⟨w.heap.size, 2, none⟩)), (some 48, .int .u32 c.tsn), (some 49, .pointer (some ⟨w.heap.size, 14, none⟩)), (some 50, .slice c.pa c.pl c.pc), (some 51, .pointer (some ⟨w.heap.size + 2, 6, none⟩)), (none, undef), (some 52, .pointer (some ⟨w.heap.size + 2, 7, none⟩)), (none, undef), (some 53, .pointer (some ⟨w.heap.size + 2, 8, none⟩)), (none, undef), (some 54, .pointer (some ⟨w.heap.size + 2, 9, none⟩)), (none, undef), (some 55, .pointer (some ⟨w.heap.size + 2, 2, none⟩)), (none, undef), (some 56, .pointer (some ⟨w.heap.size + 2, 14, none⟩)), (none, undef)] rfl (by kernel_rfl) (by rfl) (by kernel_rfl) (fun L y => Bx y w.heap.size c ∧ Bx y (w.heap.size + 1) (zck 0) ∧ Bx y (w.heap.size + 2) (dlrBare1 c L) ∧ Below w.heap.size w y) ?_ ?_ ?_ ?_
  case refine_1 =>
    intro L L' y hL hW
    have e : dlrBare1 c L' = dlrBare1 c L := by unfold dlrBare1; rw [hL 13 (by decide), hL 15 (by decide), hL 17 (by decide), hL 19 (by decide), hL 21 (by decide), hL 23 (by decide)]
    rw [e]
    exact hW
  case refine_2 =>
    intro L i o ac w' ho hi hcl hdep hF hW
    have f4 := hF.2.2.2
    match i, ho, hi, hdep with
    | 0, ho, hi, hdep =>
      cases ho
      have da0 : ac.eval (.tmp 1) = .pointer (some ⟨w.heap.size, 0, none⟩) := hF.old 1 rfl
      exact Ord.det_value rfl rfl (e_fa _ da0 rfl (fa6 _ _)) rfl ⟨hW.1, hW.2.1, (by have e : dlrBare1 c (Ord.upd L 0) = dlrBare1 c L := (by unfold dlrBare1; rfl); rw [e]; exact hW.2.2.1), hW.2.2.2⟩
    | 1, ho, hi, hdep =>
      cases ho
      have da0 : ac.eval (.tmp 39) = .pointer (some ⟨w.heap.size, 6, none⟩) := f4 0 39 _ rfl (hdep ⟨0, .data⟩ (by simp) rfl)
      exact Ord.det_value rfl rfl (e_ld _ da0 rfl (ld32 _ _ _ hW.1.c6)) rfl ⟨hW.1, hW.2.1, (by have e : dlrBare1 c (Ord.upd L 1) = dlrBare1 c L := (by unfold dlrBare1; rfl); rw [e]; exact hW.2.2.1), hW.2.2.2⟩
    | 2, ho, hi, hdep =>
      cases ho
      have da0 : ac.eval (.tmp 1) = .pointer (some ⟨w.heap.size, 0, none⟩) := hF.old 1 rfl
      exact Ord.det_value rfl rfl (e_fa _ da0 rfl (fa7 _ _)) rfl ⟨hW.1, hW.2.1, (by have e : dlrBare1 c (Ord.upd L 2) = dlrBare1 c L := (by unfold dlrBare1; rfl); rw [e]; exact hW.2.2.1), hW.2.2.2⟩
    | 3, ho, hi, hdep =>
      cases ho
      have da0 : ac.eval (.tmp 41) = .pointer (some ⟨w.heap.size, 7, none⟩) := f4 2 41 _ rfl (hdep ⟨2, .data⟩ (by simp) rfl)
      exact Ord.det_value rfl rfl (e_ld _ da0 rfl (ld32 _ _ _ hW.1.c7)) rfl ⟨hW.1, hW.2.1, (by have e : dlrBare1 c (Ord.upd L 3) = dlrBare1 c L := (by unfold dlrBare1; rfl); rw [e]; exact hW.2.2.1), hW.2.2.2⟩
    | 4, ho, hi, hdep =>
      cases ho
      have da0 : ac.eval (.tmp 1) = .pointer (some ⟨w.heap.size, 0, none⟩) := hF.old 1 rfl
      exact Ord.det_value rfl rfl (e_fa _ da0 rfl (fa8 _ _)) rfl ⟨hW.1, hW.2.1, (by have e : dlrBare1 c (Ord.upd L 4) = dlrBare1 c L := (by unfold dlrBare1; rfl); rw [e]; exact hW.2.2.1), hW.2.2.2⟩
    | 5, ho, hi, hdep =>
      cases ho
      have da0 : ac.eval (.tmp 43) = .pointer (some ⟨w.heap.size, 8, none⟩) := f4 4 43 _ rfl (hdep ⟨4, .data⟩ (by simp) rfl)
      exact Ord.det_value rfl rfl (e_ld _ da0 rfl (ld16 _ _ _ hW.1.c8)) rfl ⟨hW.1, hW.2.1, (by have e : dlrBare1 c (Ord.upd L 5) = dlrBare1 c L := (by unfold dlrBare1; rfl); rw [e]; exact hW.2.2.1), hW.2.2.2⟩
    | 6, ho, hi, hdep =>
      cases ho
      have da0 : ac.eval (.tmp 1) = .pointer (some ⟨w.heap.size, 0, none⟩) := hF.old 1 rfl
      exact Ord.det_value rfl rfl (e_fa _ da0 rfl (fa9 _ _)) rfl ⟨hW.1, hW.2.1, (by have e : dlrBare1 c (Ord.upd L 6) = dlrBare1 c L := (by unfold dlrBare1; rfl); rw [e]; exact hW.2.2.1), hW.2.2.2⟩
    | 7, ho, hi, hdep =>
      cases ho
      have da0 : ac.eval (.tmp 45) = .pointer (some ⟨w.heap.size, 9, none⟩) := f4 6 45 _ rfl (hdep ⟨6, .data⟩ (by simp) rfl)
      exact Ord.det_value rfl rfl (e_ld _ da0 rfl (ld16 _ _ _ hW.1.c9)) rfl ⟨hW.1, hW.2.1, (by have e : dlrBare1 c (Ord.upd L 7) = dlrBare1 c L := (by unfold dlrBare1; rfl); rw [e]; exact hW.2.2.1), hW.2.2.2⟩
    | 8, ho, hi, hdep =>
      cases ho
      have da0 : ac.eval (.tmp 1) = .pointer (some ⟨w.heap.size, 0, none⟩) := hF.old 1 rfl
      exact Ord.det_value rfl rfl (e_fa _ da0 rfl (fa2 _ _)) rfl ⟨hW.1, hW.2.1, (by have e : dlrBare1 c (Ord.upd L 8) = dlrBare1 c L := (by unfold dlrBare1; rfl); rw [e]; exact hW.2.2.1), hW.2.2.2⟩
    | 9, ho, hi, hdep =>
      cases ho
      have da0 : ac.eval (.tmp 47) = .pointer (some ⟨w.heap.size, 2, none⟩) := f4 8 47 _ rfl (hdep ⟨8, .data⟩ (by simp) rfl)
      exact Ord.det_value rfl rfl (e_ld _ da0 rfl (ld32 _ _ _ hW.1.c2)) rfl ⟨hW.1, hW.2.1, (by have e : dlrBare1 c (Ord.upd L 9) = dlrBare1 c L := (by unfold dlrBare1; rfl); rw [e]; exact hW.2.2.1), hW.2.2.2⟩
    | 10, ho, hi, hdep =>
      cases ho
      have da0 : ac.eval (.tmp 1) = .pointer (some ⟨w.heap.size, 0, none⟩) := hF.old 1 rfl
      exact Ord.det_value rfl rfl (e_fa _ da0 rfl (fa14 _ _)) rfl ⟨hW.1, hW.2.1, (by have e : dlrBare1 c (Ord.upd L 10) = dlrBare1 c L := (by unfold dlrBare1; rfl); rw [e]; exact hW.2.2.1), hW.2.2.2⟩
    | 11, ho, hi, hdep =>
      cases ho
      have da0 : ac.eval (.tmp 49) = .pointer (some ⟨w.heap.size, 14, none⟩) := f4 10 49 _ rfl (hdep ⟨10, .data⟩ (by simp) rfl)
      exact Ord.det_value rfl rfl (e_ld _ da0 rfl (ldP _ _ _ _ _ hW.1.c14)) rfl ⟨hW.1, hW.2.1, (by have e : dlrBare1 c (Ord.upd L 11) = dlrBare1 c L := (by unfold dlrBare1; rfl); rw [e]; exact hW.2.2.1), hW.2.2.2⟩
    | 12, ho, hi, hdep =>
      cases ho
      have da0 : ac.eval (.tmp 3) = .pointer (some ⟨w.heap.size + 2, 0, none⟩) := hF.old 3 rfl
      exact Ord.det_value rfl rfl (e_fa _ da0 rfl (fa6 _ _)) rfl ⟨hW.1, hW.2.1, (by have e : dlrBare1 c (Ord.upd L 12) = dlrBare1 c L := (by unfold dlrBare1; rfl); rw [e]; exact hW.2.2.1), hW.2.2.2⟩
    | 13, ho, hi, hdep =>
      cases ho
      have da0 : ac.eval (.tmp 51) = .pointer (some ⟨w.heap.size + 2, 6, none⟩) := f4 12 51 _ rfl (hdep ⟨12, .data⟩ (by simp) rfl)
      have da1 : ac.eval (.tmp 40) = .int .u32 c.tag := f4 1 40 _ rfl (hdep ⟨1, .data⟩ (by simp) rfl)
      have hs := hW.2.2.1.s6 c.tag
      have e : ({ dlrBare1 c L with tag := c.tag } : Ck) = dlrBare1 c (Ord.upd L 13) := by unfold dlrBare1; rfl
      rw [e] at hs
      exact det_sk rfl rfl (o_s32 _ _ da0 da1 rfl hW.2.2.1.c6 (hW.2.2.1.fr 6)) rfl ⟨hW.1.keep (by omega) _ _, hW.2.1.keep (by omega) _ _, hs, hW.2.2.2.setCell (by simp) _⟩
    | 14, ho, hi, hdep =>
      cases ho
      have da0 : ac.eval (.tmp 3) = .pointer (some ⟨w.heap.size + 2, 0, none⟩) := hF.old 3 rfl
      exact Ord.det_value rfl rfl (e_fa _ da0 rfl (fa7 _ _)) rfl ⟨hW.1, hW.2.1, (by have e : dlrBare1 c (Ord.upd L 14) = dlrBare1 c L := (by unfold dlrBare1; rfl); rw [e]; exact hW.2.2.1), hW.2.2.2⟩
    | 15, ho, hi, hdep =>
      cases ho
      have da0 : ac.eval (.tmp 52) = .pointer (some ⟨w.heap.size + 2, 7, none⟩) := f4 14 52 _ rfl (hdep ⟨14, .data⟩ (by simp) rfl)
      have da1 : ac.eval (.tmp 42) = .int .u32 c.win := f4 3 42 _ rfl (hdep ⟨3, .data⟩ (by simp) rfl)
      have hs := hW.2.2.1.s7 c.win
      have e : ({ dlrBare1 c L with win := c.win } : Ck) = dlrBare1 c (Ord.upd L 15) := by unfold dlrBare1; rfl
      rw [e] at hs
      exact det_sk rfl rfl (o_s32 _ _ da0 da1 rfl hW.2.2.1.c7 (hW.2.2.1.fr 7)) rfl ⟨hW.1.keep (by omega) _ _, hW.2.1.keep (by omega) _ _, hs, hW.2.2.2.setCell (by simp) _⟩
    | 16, ho, hi, hdep =>
      cases ho
      have da0 : ac.eval (.tmp 3) = .pointer (some ⟨w.heap.size + 2, 0, none⟩) := hF.old 3 rfl
      exact Ord.det_value rfl rfl (e_fa _ da0 rfl (fa8 _ _)) rfl ⟨hW.1, hW.2.1, (by have e : dlrBare1 c (Ord.upd L 16) = dlrBare1 c L := (by unfold dlrBare1; rfl); rw [e]; exact hW.2.2.1), hW.2.2.2⟩
    | 17, ho, hi, hdep =>
      cases ho
      have da0 : ac.eval (.tmp 53) = .pointer (some ⟨w.heap.size + 2, 8, none⟩) := f4 16 53 _ rfl (hdep ⟨16, .data⟩ (by simp) rfl)
      have da1 : ac.eval (.tmp 44) = .int .u16 c.out := f4 5 44 _ rfl (hdep ⟨5, .data⟩ (by simp) rfl)
      have hs := hW.2.2.1.s8 c.out
      have e : ({ dlrBare1 c L with out := c.out } : Ck) = dlrBare1 c (Ord.upd L 17) := by unfold dlrBare1; rfl
      rw [e] at hs
      exact det_sk rfl rfl (o_s16 _ _ da0 da1 rfl hW.2.2.1.c8 (hW.2.2.1.fr 8)) rfl ⟨hW.1.keep (by omega) _ _, hW.2.1.keep (by omega) _ _, hs, hW.2.2.2.setCell (by simp) _⟩
    | 18, ho, hi, hdep =>
      cases ho
      have da0 : ac.eval (.tmp 3) = .pointer (some ⟨w.heap.size + 2, 0, none⟩) := hF.old 3 rfl
      exact Ord.det_value rfl rfl (e_fa _ da0 rfl (fa9 _ _)) rfl ⟨hW.1, hW.2.1, (by have e : dlrBare1 c (Ord.upd L 18) = dlrBare1 c L := (by unfold dlrBare1; rfl); rw [e]; exact hW.2.2.1), hW.2.2.2⟩
    | 19, ho, hi, hdep =>
      cases ho
      have da0 : ac.eval (.tmp 54) = .pointer (some ⟨w.heap.size + 2, 9, none⟩) := f4 18 54 _ rfl (hdep ⟨18, .data⟩ (by simp) rfl)
      have da1 : ac.eval (.tmp 46) = .int .u16 c.inn := f4 7 46 _ rfl (hdep ⟨7, .data⟩ (by simp) rfl)
      have hs := hW.2.2.1.s9 c.inn
      have e : ({ dlrBare1 c L with inn := c.inn } : Ck) = dlrBare1 c (Ord.upd L 19) := by unfold dlrBare1; rfl
      rw [e] at hs
      exact det_sk rfl rfl (o_s16 _ _ da0 da1 rfl hW.2.2.1.c9 (hW.2.2.1.fr 9)) rfl ⟨hW.1.keep (by omega) _ _, hW.2.1.keep (by omega) _ _, hs, hW.2.2.2.setCell (by simp) _⟩
    | 20, ho, hi, hdep =>
      cases ho
      have da0 : ac.eval (.tmp 3) = .pointer (some ⟨w.heap.size + 2, 0, none⟩) := hF.old 3 rfl
      exact Ord.det_value rfl rfl (e_fa _ da0 rfl (fa2 _ _)) rfl ⟨hW.1, hW.2.1, (by have e : dlrBare1 c (Ord.upd L 20) = dlrBare1 c L := (by unfold dlrBare1; rfl); rw [e]; exact hW.2.2.1), hW.2.2.2⟩
    | 21, ho, hi, hdep =>
      cases ho
      have da0 : ac.eval (.tmp 55) = .pointer (some ⟨w.heap.size + 2, 2, none⟩) := f4 20 55 _ rfl (hdep ⟨20, .data⟩ (by simp) rfl)
      have da1 : ac.eval (.tmp 48) = .int .u32 c.tsn := f4 9 48 _ rfl (hdep ⟨9, .data⟩ (by simp) rfl)
      have hs := hW.2.2.1.s2 c.tsn
      have e : ({ dlrBare1 c L with tsn := c.tsn } : Ck) = dlrBare1 c (Ord.upd L 21) := by unfold dlrBare1; rfl
      rw [e] at hs
      exact det_sk rfl rfl (o_s32 _ _ da0 da1 rfl hW.2.2.1.c2 (hW.2.2.1.fr 2)) rfl ⟨hW.1.keep (by omega) _ _, hW.2.1.keep (by omega) _ _, hs, hW.2.2.2.setCell (by simp) _⟩
    | 22, ho, hi, hdep =>
      cases ho
      have da0 : ac.eval (.tmp 3) = .pointer (some ⟨w.heap.size + 2, 0, none⟩) := hF.old 3 rfl
      exact Ord.det_value rfl rfl (e_fa _ da0 rfl (fa14 _ _)) rfl ⟨hW.1, hW.2.1, (by have e : dlrBare1 c (Ord.upd L 22) = dlrBare1 c L := (by unfold dlrBare1; rfl); rw [e]; exact hW.2.2.1), hW.2.2.2⟩
    | 23, ho, hi, hdep =>
      cases ho
      have da0 : ac.eval (.tmp 56) = .pointer (some ⟨w.heap.size + 2, 14, none⟩) := f4 22 56 _ rfl (hdep ⟨22, .data⟩ (by simp) rfl)
      have da1 : ac.eval (.tmp 50) = .slice c.pa c.pl c.pc := f4 11 50 _ rfl (hdep ⟨11, .data⟩ (by simp) rfl)
      have hs := hW.2.2.1.s14 c.pa c.pl c.pc c.ps
      have e : ({ dlrBare1 c L with pa := c.pa, pl := c.pl, pc := c.pc, ps := c.ps } : Ck) = dlrBare1 c (Ord.upd L 23) := by unfold dlrBare1; rfl
      rw [e] at hs
      exact det_sk rfl rfl (o_sP _ _ da0 da1 rfl hW.2.2.1.c14 (hW.2.2.1.fr 14)) rfl ⟨hW.1.keep (by omega) _ _, hW.2.1.keep (by omega) _ _, hs, hW.2.2.2.setCell (by simp) _⟩
  case refine_4 => exact ⟨HX1.out, HX2.out, HX3.out, Par.below_drewN HB.out 1⟩
  case refine_3 =>
    intro Y hY
    rename_i Q0
    simp only [Ord.puts, Ord.prs, List.filterMap_cons, List.filterMap_nil, Option.map_some, Option.map_none, List.foldl_cons, List.foldl_nil]
    go_simp
    obtain ⟨f1, f2, f3⟩ : (sto (.pointer (some ⟨w.heap.size + 1, 0, none⟩)) (cv ({ zck 1 with tag := c.tag, win := c.win, out := c.out, inn := c.inn, tsn := c.tsn, pa := c.pa, pl := c.pl, pc := c.pc, ps := c.ps } : Ck))).run Tryz.prog Y = .ok () (stoW Y (w.heap.size + 1) ({ zck 1 with tag := c.tag, win := c.win, out := c.out, inn := c.inn, tsn := c.tsn, pa := c.pa, pl := c.pl, pc := c.pc, ps := c.ps })) ∧ Bx (stoW Y (w.heap.size + 1) ({ zck 1 with tag := c.tag, win := c.win, out := c.out, inn := c.inn, tsn := c.tsn, pa := c.pa, pl := c.pl, pc := c.pc, ps := c.ps })) (w.heap.size + 1) ({ zck 1 with tag := c.tag, win := c.win, out := c.out, inn := c.inn, tsn := c.tsn, pa := c.pa, pl := c.pl, pc := c.pc, ps := c.ps }) ∧ Below w.heap.size w (stoW Y (w.heap.size + 1) ({ zck 1 with tag := c.tag, win := c.win, out := c.out, inn := c.inn, tsn := c.tsn, pa := c.pa, pl := c.pl, pc := c.pc, ps := c.ps })) := ⟨sto_run hY.2.1 _, stoW_bx hY.2.1 _, stoW_below _ hY.2.2.2 (by omega)⟩
    have l3 : (ld (.pointer (some ⟨w.heap.size + 2, 0, none⟩))).run Tryz.prog Y = .ok (cv ({ zck 1 with tag := c.tag, win := c.win, out := c.out, inn := c.inn, tsn := c.tsn, pa := c.pa, pl := c.pl, pc := c.pc, ps := c.ps } : Ck)) Y := hY.2.2.1.ld
    have F2 := hidden f2
    have F3 := hidden f3
    clear f2 f3 hY
    go_wp2
    exact bodyPost_ret (v := cv ({ zck 1 with tag := c.tag, win := c.win, out := c.out, inn := c.inn, tsn := c.tsn, pa := c.pa, pl := c.pl, pc := c.pc, ps := c.ps })) (cell_res Tryz.results75 F2.out _ rfl) rfl ⟨_, rfl, HV.out, HLS.out, F3.out⟩
def dlrBare2 (c : Ck) (L : Nat → Bool) : Ck := { zck 2 with tag := if L 13 = true then c.tag else 0, win := if L 15 = true then c.win else 0, out := if L 17 = true then c.out else 0, inn := if L 19 = true then c.inn else 0, tsn := if L 21 = true then c.tsn else 0, pa := if L 23 = true then c.pa else none, pl := if L 23 = true then c.pl else 0, pc := if L 23 = true then c.pc else 0, ps := if L 23 = true then c.ps else [] }
set_option maxRecDepth 20000 in
set_option maxHeartbeats 2000000 in
theorem rBare2 (c : Ck) (w : World) (hn : Nums c) (hk : c.kind = 2) : Calls Tryz.prog 75 #[cv c] w fun e w' => BareR c w e w' := by
  have HV := hidden (show val c = val ({ zck 2 with tag := c.tag, win := c.win, out := c.out, inn := c.inn, tsn := c.tsn, pa := c.pa, pl := c.pl, pc := c.pc, ps := c.ps } : Ck) ↔ OwnF (val c) by
    have f8 := mod8 hn.2.1
    have f2 := mod2 hn.2.1
    simp only [val, zck, OwnF, FlagOk, FieldOk, Ch.mk.injEq, hk]
    simp [f8, f2])
  have HLS := hidden (show ∀ base W, Lsts base W c → Lsts base W ({ zck 2 with tag := c.tag, win := c.win, out := c.out, inn := c.inn, tsn := c.tsn, pa := c.pa, pl := c.pl, pc := c.pc, ps := c.ps } : Ck) from (fun base W h => ⟨Gaps.nil _ _ _, Gaps.nil _ _ _, Fours.nil _ _ _, ⟨rfl, (fun n hn => by cases hn), Nat.zero_le _, .inl rfl⟩, (fun _ => ⟨rfl, rfl⟩), h.2.2.2.2.2⟩))
  obtain ⟨N0, N1, _⟩ := hn
  have b1 := Bx.new w c
  have b2 : Bx ((w.alloc (.cells (cc c) 59)).alloc (.cells #[.int .u8 0, .int .u8 0, .int .u32 0, .int .u16 0, .int .u16 0, .int .u32 0, .int .u32 0, .int .u32 0, .int .u16 0, .int .u16 0, .slice none 0 0, .slice none 0 0, .slice none 0 0, .slice none 0 0, .slice none 0 0] 59)) (w.heap.size + 1) (zck 0) := by
    have := Bx.new (w.alloc (.cells (cc c) 59)) (zck 0)
    rw [World.size_alloc] at this
    exact this
  obtain ⟨W, hS, hbx, hbw⟩ := newvar ((w.alloc (.cells (cc c) 59)).alloc (.cells #[.int .u8 0, .int .u8 0, .int .u32 0, .int .u16 0, .int .u16 0, .int .u32 0, .int .u32 0, .int .u32 0, .int .u16 0, .int .u16 0, .slice none 0 0, .slice none 0 0, .slice none 0 0, .slice none 0 0, .slice none 0 0] 59)) (zck c.kind)
  have hsz : ((w.alloc (.cells (cc c) 59)).alloc (.cells #[.int .u8 0, .int .u8 0, .int .u32 0, .int .u16 0, .int .u16 0, .int .u32 0, .int .u32 0, .int .u32 0, .int .u16 0, .int .u16 0, .slice none 0 0, .slice none 0 0, .slice none 0 0, .slice none 0 0, .slice none 0 0] 59)).heap.size = w.heap.size + 2 := by simp
  rw [hsz] at hS hbx hbw
  have hbb : Below w.heap.size w W := (((Below.refl _ w).alloc (Nat.le_refl _) (.cells (cc c) 59)).alloc (by simp) _).trans (hbw.mono (by omega))
  have x1 : Bx W w.heap.size c := (b1.alloc (.cells #[.int .u8 0, .int .u8 0, .int .u32 0, .int .u16 0, .int .u16 0, .int .u32 0, .int .u32 0, .int .u32 0, .int .u16 0, .int .u16 0, .slice none 0 0, .slice none 0 0, .slice none 0 0, .slice none 0 0, .slice none 0 0] 59)).later (by rw [hsz]; exact hbw)
  have x2 : Bx W (w.heap.size + 1) (zck 0) := b2.later (by rw [hsz]; exact hbw)
  have q0 := ((Bx.new w c).alloc (.cells #[.int .u8 0, .int .u8 0, .int .u32 0, .int .u16 0, .int .u16 0, .int .u32 0, .int .u32 0, .int .u32 0, .int .u16 0, .int .u16 0, .slice none 0 0, .slice none 0 0, .slice none 0 0, .slice none 0 0, .slice none 0 0] 59)).c0
  have hS' : (sto (.pointer (some ⟨w.heap.size + 2, 0, none⟩)) (.agg #[.int .u8 c.kind, .int .u8 0, .int .u32 0, .int .u16 0, .int .u16 0, .int .u32 0, .int .u32 0, .int .u32 0, .int .u16 0, .int .u16 0, .slice none 0 0, .slice none 0 0, .slice none 0 0, .slice none 0 0, .slice none 0 0])).run Tryz.prog (((w.alloc (.cells (cc c) 59)).alloc (.cells #[.int .u8 0, .int .u8 0, .int .u32 0, .int .u16 0, .int .u16 0, .int .u32 0, .int .u32 0, .int .u32 0, .int .u16 0, .int .u16 0, .slice none 0 0, .slice none 0 0, .slice none 0 0, .slice none 0 0, .slice none 0 0] 59)).alloc (.cells #[.int .u8 0, .int .u8 0, .int .u32 0, .int .u16 0, .int .u16 0, .int .u32 0, .int .u32 0, .int .u32 0, .int .u16 0, .int .u16 0, .slice none 0 0, .slice none 0 0, .slice none 0 0, .slice none 0 0, .slice none 0 0] 59)) = .ok () W := hS
  have q0' := x1.c0
  have HX1 := hidden x1
  have HX2 := hidden x2
  have HX3 := hidden hbx
  have HB := hidden hbb
  clear hS b1 b2 hbw hbb hsz x1 x2 hbx
  rw [hk] at q0 q0' hS' HX3
  go_enter Tryz.func75, Tryz.ntmps75
  go_wp2_with fail
  refine Ord.wp_region_detC (by kernel_rfl) [0, 1, 2, 3, 4, 5, 6, 7, 8, 9, 10, 11, 12, 13, 14, 15, 16, 17, 18, 19, 20, 21, 22, 23] 124 [(some 39, .pointer (some ⟨w.heap.size, 6, none⟩)), (some 40, .int .u32 c.tag), (some 41, .pointer (some ⟨w.heap.size, 7, none⟩)), (some 42, .int .u32 c.win), (some 43, .pointer (some ⟨w.heap.size, 8, none⟩)), (some 44, .int .u16 c.out), (some 45, .pointer (some ⟨w.heap.size, 9, none⟩)), (some 46, .int .u16 c.inn), (some 47, .pointer (some ⟨w.heap.size, 2, none⟩)), (some 48, .int .u32 c.tsn), (some 49, .pointer (some ⟨w.heap.size, 14, none⟩)), (some 50, .slice c.pa c.pl c.pc), (some 51, .pointer (some ⟨w.heap.size + 2, 6, none⟩)), (none, undef), (some 52, .pointer (some ⟨w.heap.size + 2, 7, none⟩)), (none, undef), (some 53, .pointer (some ⟨w.heap.size + 2, 8, none⟩)), (none, undef), (some 54, .pointer (some ⟨w.heap.size + 2, 9, none⟩)), (none, undef), (some 55, .pointer (some ⟨w.heap.size + 2, 2, none⟩)), (none, undef), (some 56, .pointer (some ⟨w.heap.size + 2, 14, none⟩)), (none, undef)] rfl (by kernel_rfl) (by rfl) (by kernel_rfl) (fun L y => Bx y w.heap.size c ∧ Bx y (w.heap.size + 1) (zck 0) ∧ Bx y (w.heap.size + 2) (dlrBare2 c L) ∧ Below w.heap.size w y) ?_ ?_ ?_ ?_
  case refine_1 =>
    intro L L' y hL hW
    have e : dlrBare2 c L' = dlrBare2 c L := by unfold dlrBare2; rw [hL 13 (by decide), hL 15 (by decide), hL 17 (by decide), hL 19 (by decide), hL 21 (by decide), hL 23 (by decide)]
    rw [e]
    exact hW
  case refine_2 =>
    intro L i o ac w' ho hi hcl hdep hF hW
    have f4 := hF.2.2.2
    match i, ho, hi, hdep with
    | 0, ho, hi, hdep =>
      cases ho
      have da0 : ac.eval (.tmp 1) = .pointer (some ⟨w.heap.size, 0, none⟩) := hF.old 1 rfl
      exact Ord.det_value rfl rfl (e_fa _ da0 rfl (fa6 _ _)) rfl ⟨hW.1, hW.2.1, (by have e : dlrBare2 c (Ord.upd L 0) = dlrBare2 c L := (by unfold dlrBare2; rfl); rw [e]; exact hW.2.2.1), hW.2.2.2⟩
    | 1, ho, hi, hdep =>
      cases ho
      have da0 : ac.eval (.tmp 39) = .pointer (some ⟨w.heap.size, 6, none⟩) := f4 0 39 _ rfl (hdep ⟨0, .data⟩ (by simp) rfl)
      exact Ord.det_value rfl rfl (e_ld _ da0 rfl (ld32 _ _ _ hW.1.c6)) rfl ⟨hW.1, hW.2.1, (by have e : dlrBare2 c (Ord.upd L 1) = dlrBare2 c L := (by unfold dlrBare2; rfl); rw [e]; exact hW.2.2.1), hW.2.2.2⟩
    | 2, ho, hi, hdep =>
      cases ho
      have da0 : ac.eval (.tmp 1) = .pointer (some ⟨w.heap.size, 0, none⟩) := hF.old 1 rfl
      exact Ord.det_value rfl rfl (e_fa _ da0 rfl (fa7 _ _)) rfl ⟨hW.1, hW.2.1, (by have e : dlrBare2 c (Ord.upd L 2) = dlrBare2 c L := (by unfold dlrBare2; rfl); rw [e]; exact hW.2.2.1), hW.2.2.2⟩
    | 3, ho, hi, hdep =>
      cases ho
      have da0 : ac.eval (.tmp 41) = .pointer (some ⟨w.heap.size, 7, none⟩) := f4 2 41 _ rfl (hdep ⟨2, .data⟩ (by simp) rfl)
      exact Ord.det_value rfl rfl (e_ld _ da0 rfl (ld32 _ _ _ hW.1.c7)) rfl ⟨hW.1, hW.2.1, (by have e : dlrBare2 c (Ord.upd L 3) = dlrBare2 c L := (by unfold dlrBare2; rfl); rw [e]; exact hW.2.2.1), hW.2.2.2⟩
    | 4, ho, hi, hdep =>
      cases ho
      have da0 : ac.eval (.tmp 1) = .pointer (some ⟨w.heap.size, 0, none⟩) := hF.old 1 rfl
      exact Ord.det_value rfl rfl (e_fa _ da0 rfl (fa8 _ _)) rfl ⟨hW.1, hW.2.1, (by have e : dlrBare2 c (Ord.upd L 4) = dlrBare2 c L := (by unfold dlrBare2; rfl); rw [e]; exact hW.2.2.1), hW.2.2.2⟩
    | 5, ho, hi, hdep =>
      cases ho
      have da0 : ac.eval (.tmp 43) = .pointer (some ⟨w.heap.size, 8, none⟩) := f4 4 43 _ rfl (hdep ⟨4, .data⟩ (by simp) rfl)
      exact Ord.det_value rfl rfl (e_ld _ da0 rfl (ld16 _ _ _ hW.1.c8)) rfl ⟨hW.1, hW.2.1, (by have e : dlrBare2 c (Ord.upd L 5) = dlrBare2 c L := (by unfold dlrBare2; rfl); rw [e]; exact hW.2.2.1), hW.2.2.2⟩
    | 6, ho, hi, hdep =>
      cases ho
      have da0 : ac.eval (.tmp 1) = .pointer (some ⟨w.heap.size, 0, none⟩) := hF.old 1 rfl
      exact Ord.det_value rfl rfl (e_fa _ da0 rfl (fa9 _ _)) rfl ⟨hW.1, hW.2.1, (by have e : dlrBare2 c (Ord.upd L 6) = dlrBare2 c L := (by unfold dlrBare2; rfl); rw [e]; exact hW.2.2.1), hW.2.2.2⟩
    | 7, ho, hi, hdep =>
      cases ho
      have da0 : ac.eval (.tmp 45) = .pointer (some ⟨w.heap.size, 9, none⟩) := f4 6 45 _ rfl (hdep ⟨6, .data⟩ (by simp) rfl)
      exact Ord.det_value rfl rfl (e_ld _ da0 rfl (ld16 _ _ _ hW.1.c9)) rfl ⟨hW.1, hW.2.1, (by have e : dlrBare2 c (Ord.upd L 7) = dlrBare2 c L := (by unfold dlrBare2; rfl); rw [e]; exact hW.2.2.1), hW.2.2.2⟩
    | 8, ho, hi, hdep =>
      cases ho
      have da0 : ac.eval (.tmp 1) = .pointer (some ⟨w.heap.size, 0, none⟩) := hF.old 1 rfl
      exact Ord.det_value rfl rfl (e_fa _ da0 rfl (fa2 _ _)) rfl ⟨hW.1, hW.2.1, (by have e : dlrBare2 c (Ord.upd L 8) = dlrBare2 c L := (by unfold dlrBare2; rfl); rw [e]; exact hW.2.2.1), hW.2.2.2⟩
    | 9, ho, hi, hdep =>
      cases ho
      have da0 : ac.eval (.tmp 47) = .pointer (some ⟨w.heap.size, 2, none⟩) := f4 8 47 _ rfl (hdep ⟨8, .data⟩ (by simp) rfl)
      exact Ord.det_value rfl rfl (e_ld _ da0 rfl (ld32 _ _ _ hW.1.c2)) rfl ⟨hW.1, hW.2.1, (by have e : dlrBare2 c (Ord.upd L 9) = dlrBare2 c L := (by unfold dlrBare2; rfl); rw [e]; exact hW.2.2.1), hW.2.2.2⟩
    | 10, ho, hi, hdep =>
      cases ho
      have da0 : ac.eval (.tmp 1) = .pointer (some ⟨w.heap.size, 0, none⟩) := hF.old 1 rfl
      exact Ord.det_value rfl rfl (e_fa _ da0 rfl (fa14 _ _)) rfl ⟨hW.1, hW.2.1, (by have e : dlrBare2 c (Ord.upd L 10) = dlrBare2 c L := (by unfold dlrBare2; rfl); rw [e]; exact hW.2.2.1), hW.2.2.2⟩
    | 11, ho, hi, hdep =>
      cases ho
      have da0 : ac.eval (.tmp 49) = .pointer (some ⟨w.heap.size, 14, none⟩) := f4 10 49 _ rfl (hdep ⟨10, .data⟩ (by simp) rfl)
      exact Ord.det_value rfl rfl (e_ld _ da0 rfl (ldP _ _ _ _ _ hW.1.c14)) rfl ⟨hW.1, hW.2.1, (by have e : dlrBare2 c (Ord.upd L 11) = dlrBare2 c L := (by unfold dlrBare2; rfl); rw [e]; exact hW.2.2.1), hW.2.2.2⟩
    | 12, ho, hi, hdep =>
      cases ho
      have da0 : ac.eval (.tmp 3) = .pointer (some ⟨w.heap.size + 2, 0, none⟩) := hF.old 3 rfl
      exact Ord.det_value rfl rfl (e_fa _ da0 rfl (fa6 _ _)) rfl ⟨hW.1, hW.2.1, (by have e : dlrBare2 c (Ord.upd L 12) = dlrBare2 c L := (by unfold dlrBare2; rfl); rw [e]; exact hW.2.2.1), hW.2.2.2⟩
    | 13, ho, hi, hdep =>
      cases ho
      have da0 : ac.eval (.tmp 51) = .pointer (some ⟨w.heap.size + 2, 6, none⟩) := f4 12 51 _ rfl (hdep ⟨12, .data⟩ (by simp) rfl)
      have da1 : ac.eval (.tmp 40) = .int .u32 c.tag := f4 1 40 _ rfl (hdep ⟨1, .data⟩ (by simp) rfl)
      have hs := hW.2.2.1.s6 c.tag
      have e : ({ dlrBare2 c L with tag := c.tag } : Ck) = dlrBare2 c (Ord.upd L 13) := by unfold dlrBare2; rfl
      rw [e] at hs
      exact det_sk rfl rfl (o_s32 _ _ da0 da1 rfl hW.2.2.1.c6 (hW.2.2.1.fr 6)) rfl ⟨hW.1.keep (by omega) _ _, hW.2.1.keep (by omega) _ _, hs, hW.2.2.2.setCell (by simp) _⟩
    | 14, ho, hi, hdep =>
      cases ho
      have da0 : ac.eval (.tmp 3) = .pointer (some ⟨w.heap.size + 2, 0, none⟩) := hF.old 3 rfl
      exact Ord.det_value rfl rfl (e_fa _ da0 rfl (fa7 _ _)) rfl ⟨hW.1, hW.2.1, (by have e : dlrBare2 c (Ord.upd L 14) = dlrBare2 c L := (by unfold dlrBare2; rfl); rw [e]; exact hW.2.2.1), hW.2.2.2⟩
    | 15, ho, hi, hdep =>
      cases ho
      have da0 : ac.eval (.tmp 52) = .pointer (some ⟨w.heap.size + 2, 7, none⟩) := f4 14 52 _ rfl (hdep ⟨14, .data⟩ (by simp) rfl)
      have da1 : ac.eval (.tmp 42) = .int .u32 c.win := f4 3 42 _ rfl (hdep ⟨3, .data⟩ (by simp) rfl)
      have hs := hW.2.2.1.s7 c.win
      have e : ({ dlrBare2 c L with win := c.win } : Ck) = dlrBare2 c (Ord.upd L 15) := by unfold dlrBare2; rfl
      rw [e] at hs
      exact det_sk rfl rfl (o_s32 _ _ da0 da1 rfl hW.2.2.1.c7 (hW.2.2.1.fr 7)) rfl ⟨hW.1.keep (by omega) _ _, hW.2.1.keep (by omega) _ _, hs, hW.2.2.2.setCell (by simp) _⟩
    | 16, ho, hi, hdep =>
      cases ho
      have da0 : ac.eval (.tmp 3) = .pointer (some ⟨w.heap.size + 2, 0, none⟩) := hF.old 3 rfl
      exact Ord.det_value rfl rfl (e_fa _ da0 rfl (fa8 _ _)) rfl ⟨hW.1, hW.2.1, (by have e : dlrBare2 c (Ord.upd L 16) = dlrBare2 c L := (by unfold dlrBare2; rfl); rw [e]; exact hW.2.2.1), hW.2.2.2⟩
    | 17, ho, hi, hdep =>
      cases ho
      have da0 : ac.eval (.tmp 53) = .pointer (some ⟨w.heap.size + 2, 8, none⟩) := f4 16 53 _ rfl (hdep ⟨16, .data⟩ (by simp) rfl)
      have da1 : ac.eval (.tmp 44) = .int .u16 c.out := f4 5 44 _ rfl (hdep ⟨5, .data⟩ (by simp) rfl)
      have hs := hW.2.2.1.s8 c.out
      have e : ({ dlrBare2 c L with out := c.out } : Ck) = dlrBare2 c (Ord.upd L 17) := by unfold dlrBare2; rfl
      rw [e] at hs
      exact det_sk rfl rfl (o_s16 _ _ da0 da1 rfl hW.2.2.1.c8 (hW.2.2.1.fr 8)) rfl ⟨hW.1.keep (by omega) _ _, hW.2.1.keep (by omega) _ _, hs, hW.2.2.2.setCell (by simp) _⟩
    | 18, ho, hi, hdep =>
      cases ho
      have da0 : ac.eval (.tmp 3) = .pointer (some ⟨w.heap.size + 2, 0, none⟩) := hF.old 3 rfl
      exact Ord.det_value rfl rfl (e_fa _ da0 rfl (fa9 _ _)) rfl ⟨hW.1, hW.2.1, (by have e : dlrBare2 c (Ord.upd L 18) = dlrBare2 c L := (by unfold dlrBare2; rfl); rw [e]; exact hW.2.2.1), hW.2.2.2⟩
    | 19, ho, hi, hdep =>
      cases ho
      have da0 : ac.eval (.tmp 54) = .pointer (some ⟨w.heap.size + 2, 9, none⟩) := f4 18 54 _ rfl (hdep ⟨18, .data⟩ (by simp) rfl)
      have da1 : ac.eval (.tmp 46) = .int .u16 c.inn := f4 7 46 _ rfl (hdep ⟨7, .data⟩ (by simp) rfl)
      have hs := hW.2.2.1.s9 c.inn
      have e : ({ dlrBare2 c L with inn := c.inn } : Ck) = dlrBare2 c (Ord.upd L 19) := by unfold dlrBare2; rfl
      rw [e] at hs
      exact det_sk rfl rfl (o_s16 _ _ da0 da1 rfl hW.2.2.1.c9 (hW.2.2.1.fr 9)) rfl ⟨hW.1.keep (by omega) _ _, hW.2.1.keep (by omega) _ _, hs, hW.2.2.2.setCell (by simp) _⟩
    | 20, ho, hi, hdep =>
      cases ho
      have da0 : ac.eval (.tmp 3) = .pointer (some ⟨w.heap.size + 2, 0, none⟩) := hF.old 3 rfl
      exact Ord.det_value rfl rfl (e_fa _ da0 rfl (fa2 _ _)) rfl ⟨hW.1, hW.2.1, (by have e : dlrBare2 c (Ord.upd L 20) = dlrBare2 c L := (by unfold dlrBare2; rfl); rw [e]; exact hW.2.2.1), hW.2.2.2⟩
    | 21, ho, hi, hdep =>
      cases ho
      have da0 : ac.eval (.tmp 55) = .pointer (some ⟨w.heap.size + 2, 2, none⟩) := f4 20 55 _ rfl (hdep ⟨20, .data⟩ (by simp) rfl)
      have da1 : ac.eval (.tmp 48) = .int .u32 c.tsn := f4 9 48 _ rfl (hdep ⟨9, .data⟩ (by simp) rfl)
      have hs := hW.2.2.1.s2 c.tsn
      have e : ({ dlrBare2 c L with tsn := c.tsn } : Ck) = dlrBare2 c (Ord.upd L 21) := by unfold dlrBare2; rfl
      rw [e] at hs
      exact det_sk rfl rfl (o_s32 _ _ da0 da1 rfl hW.2.2.1.c2 (hW.2.2.1.fr 2)) rfl ⟨hW.1.keep (by omega) _ _, hW.2.1.keep (by omega) _ _, hs, hW.2.2.2.setCell (by simp) _⟩
    | 22, ho, hi, hdep =>
      cases ho
      have da0 : ac.eval (.tmp 3) = .pointer (some ⟨w.heap.size + 2, 0, none⟩) := hF.old 3 rfl
      exact Ord.det_value rfl rfl (e_fa _ da0 rfl (fa14 _ _)) rfl ⟨hW.1, hW.2.1, (by have e : dlrBare2 c (Ord.upd L 22) = dlrBare2 c L := (by unfold dlrBare2; rfl); rw [e]; exact hW.2.2.1), hW.2.2.2⟩
    | 23, ho, hi, hdep =>
      cases ho
      have da0 : ac.eval (.tmp 56) = .pointer (some ⟨w.heap.size + 2, 14, none⟩) := f4 22 56 _ rfl (hdep ⟨22, .data⟩ (by simp) rfl)
      have da1 : ac.eval (.tmp 50) = .slice c.pa c.pl c.pc := f4 11 50 _ rfl (hdep ⟨11, .data⟩ (by simp) rfl)
      have hs := hW.2.2.1.s14 c.pa c.pl c.pc c.ps
      have e : ({ dlrBare2 c L with pa := c.pa, pl := c.pl, pc := c.pc, ps := c.ps } : Ck) = dlrBare2 c (Ord.upd L 23) := by unfold dlrBare2; rfl
      rw [e] at hs
      exact det_sk rfl rfl (o_sP _ _ da0 da1 rfl hW.2.2.1.c14 (hW.2.2.1.fr 14)) rfl ⟨hW.1.keep (by omega) _ _, hW.2.1.keep (by omega) _ _, hs, hW.2.2.2.setCell (by simp) _⟩
  case refine_4 => exact ⟨HX1.out, HX2.out, HX3.out, Par.below_drewN HB.out 1⟩
  case refine_3 =>
    intro Y hY
    rename_i Q0
    simp only [Ord.puts, Ord.prs, List.filterMap_cons, List.filterMap_nil, Option.map_some, Option.map_none, List.foldl_cons, List.foldl_nil]
    go_simp
    obtain ⟨f1, f2, f3⟩ : (sto (.pointer (some ⟨w.heap.size + 1, 0, none⟩)) (cv ({ zck 2 with tag := c.tag, win := c.win, out := c.out, inn := c.inn, tsn := c.tsn, pa := c.pa, pl := c.pl, pc := c.pc, ps := c.ps } : Ck))).run Tryz.prog Y = .ok () (stoW Y (w.heap.size + 1) ({ zck 2 with tag := c.tag, win := c.win, out := c.out, inn := c.inn, tsn := c.tsn, pa := c.pa, pl := c.pl, pc := c.pc, ps := c.ps })) ∧ Bx (stoW Y (w.heap.size + 1) ({ zck 2 with tag := c.tag, win := c.win, out := c.out, inn := c.inn, tsn := c.tsn, pa := c.pa, pl := c.pl, pc := c.pc, ps := c.ps })) (w.heap.size + 1) ({ zck 2 with tag := c.tag, win := c.win, out := c.out, inn := c.inn, tsn := c.tsn, pa := c.pa, pl := c.pl, pc := c.pc, ps := c.ps }) ∧ Below w.heap.size w (stoW Y (w.heap.size + 1) ({ zck 2 with tag := c.tag, win := c.win, out := c.out, inn := c.inn, tsn := c.tsn, pa := c.pa, pl := c.pl, pc := c.pc, ps := c.ps })) := ⟨sto_run hY.2.1 _, stoW_bx hY.2.1 _, stoW_below _ hY.2.2.2 (by omega)⟩
    have l3 : (ld (.pointer (some ⟨w.heap.size + 2, 0, none⟩))).run Tryz.prog Y = .ok (cv ({ zck 2 with tag := c.tag, win := c.win, out := c.out, inn := c.inn, tsn := c.tsn, pa := c.pa, pl := c.pl, pc := c.pc, ps := c.ps } : Ck)) Y := hY.2.2.1.ld
    have F2 := hidden f2
    have F3 := hidden f3
    clear f2 f3 hY
    go_wp2
    exact bodyPost_ret (v := cv ({ zck 2 with tag := c.tag, win := c.win, out := c.out, inn := c.inn, tsn := c.tsn, pa := c.pa, pl := c.pl, pc := c.pc, ps := c.ps })) (cell_res Tryz.results75 F2.out _ rfl) rfl ⟨_, rfl, HV.out, HLS.out, F3.out⟩
def dlrBare16 (c : Ck) (L : Nat → Bool) : Ck := { zck 16 with tsn := if L 11 = true then c.tsn else 0, win := if L 13 = true then c.win else 0, ga := if L 15 = true then c.ga else none, gl := if L 15 = true then c.gl else 0, gc := if L 15 = true then c.gc else 0, gs := if L 15 = true then c.gs else [], na := if L 17 = true then c.na else none, nl := if L 17 = true then c.nl else 0, nc := if L 17 = true then c.nc else 0, ns := if L 17 = true then c.ns else [], da := if L 19 = true then c.da else none, dl := if L 19 = true then c.dl else 0, dc := if L 19 = true then c.dc else 0, ds := if L 19 = true then c.ds else [] }
set_option maxRecDepth 20000 in
set_option maxHeartbeats 2000000 in
theorem rBare16 (c : Ck) (w : World) (hn : Nums c) (hk : c.kind = 16) : Calls Tryz.prog 75 #[cv c] w fun e w' => BareR c w e w' := by
  have HV := hidden (show val c = val ({ zck 16 with tsn := c.tsn, win := c.win, ga := c.ga, gl := c.gl, gc := c.gc, gs := c.gs, na := c.na, nl := c.nl, nc := c.nc, ns := c.ns, da := c.da, dl := c.dl, dc := c.dc, ds := c.ds } : Ck) ↔ OwnF (val c) by
    have f8 := mod8 hn.2.1
    have f2 := mod2 hn.2.1
    simp only [val, zck, OwnF, FlagOk, FieldOk, Ch.mk.injEq, hk]
    simp [f8, f2])
  have HLS := hidden (show ∀ base W, Lsts base W c → Lsts base W ({ zck 16 with tsn := c.tsn, win := c.win, ga := c.ga, gl := c.gl, gc := c.gc, gs := c.gs, na := c.na, nl := c.nl, nc := c.nc, ns := c.ns, da := c.da, dl := c.dl, dc := c.dc, ds := c.ds } : Ck) from (fun base W h => ⟨h.1, h.2.1, h.2.2.1, ⟨rfl, (fun n hn => by cases hn), Nat.zero_le _, .inl rfl⟩, (fun _ => ⟨rfl, rfl⟩), Prms.nil _ _ _⟩))
  obtain ⟨N0, N1, _⟩ := hn
  have b1 := Bx.new w c
  have b2 : Bx ((w.alloc (.cells (cc c) 59)).alloc (.cells #[.int .u8 0, .int .u8 0, .int .u32 0, .int .u16 0, .int .u16 0, .int .u32 0, .int .u32 0, .int .u32 0, .int .u16 0, .int .u16 0, .slice none 0 0, .slice none 0 0, .slice none 0 0, .slice none 0 0, .slice none 0 0] 59)) (w.heap.size + 1) (zck 0) := by
    have := Bx.new (w.alloc (.cells (cc c) 59)) (zck 0)
    rw [World.size_alloc] at this
    exact this
  obtain ⟨W, hS, hbx, hbw⟩ := newvar ((w.alloc (.cells (cc c) 59)).alloc (.cells #[.int .u8 0, .int .u8 0, .int .u32 0, .int .u16 0, .int .u16 0, .int .u32 0, .int .u32 0, .int .u32 0, .int .u16 0, .int .u16 0, .slice none 0 0, .slice none 0 0, .slice none 0 0, .slice none 0 0, .slice none 0 0] 59)) (zck c.kind)
  have hsz : ((w.alloc (.cells (cc c) 59)).alloc (.cells #[.int .u8 0, .int .u8 0, .int .u32 0, .int .u16 0, .int .u16 0, .int .u32 0, .int .u32 0, .int .u32 0, .int .u16 0, .int .u16 0, .slice none 0 0, .slice none 0 0, .slice none 0 0, .slice none 0 0, .slice none 0 0] 59)).heap.size = w.heap.size + 2 := by simp
  rw [hsz] at hS hbx hbw
  have hbb : Below w.heap.size w W := (((Below.refl _ w).alloc (Nat.le_refl _) (.cells (cc c) 59)).alloc (by simp) _).trans (hbw.mono (by omega))
  have x1 : Bx W w.heap.size c := (b1.alloc (.cells #[.int .u8 0, .int .u8 0, .int .u32 0, .int .u16 0, .int .u16 0, .int .u32 0, .int .u32 0, .int .u32 0, .int .u16 0, .int .u16 0, .slice none 0 0, .slice none 0 0, .slice none 0 0, .slice none 0 0, .slice none 0 0] 59)).later (by rw [hsz]; exact hbw)
  have x2 : Bx W (w.heap.size + 1) (zck 0) := b2.later (by rw [hsz]; exact hbw)
  have q0 := ((Bx.new w c).alloc (.cells #[.int .u8 0, .int .u8 0, .int .u32 0, .int .u16 0, .int .u16 0, .int .u32 0, .int .u32 0, .int .u32 0, .int .u16 0, .int .u16 0, .slice none 0 0, .slice none 0 0, .slice none 0 0, .slice none 0 0, .slice none 0 0] 59)).c0
  have hS' : (sto (.pointer (some ⟨w.heap.size + 2, 0, none⟩)) (.agg #[.int .u8 c.kind, .int .u8 0, .int .u32 0, .int .u16 0, .int .u16 0, .int .u32 0, .int .u32 0, .int .u32 0, .int .u16 0, .int .u16 0, .slice none 0 0, .slice none 0 0, .slice none 0 0, .slice none 0 0, .slice none 0 0])).run Tryz.prog (((w.alloc (.cells (cc c) 59)).alloc (.cells #[.int .u8 0, .int .u8 0, .int .u32 0, .int .u16 0, .int .u16 0, .int .u32 0, .int .u32 0, .int .u32 0, .int .u16 0, .int .u16 0, .slice none 0 0, .slice none 0 0, .slice none 0 0, .slice none 0 0, .slice none 0 0] 59)).alloc (.cells #[.int .u8 0, .int .u8 0, .int .u32 0, .int .u16 0, .int .u16 0, .int .u32 0, .int .u32 0, .int .u32 0, .int .u16 0, .int .u16 0, .slice none 0 0, .slice none 0 0, .slice none 0 0, .slice none 0 0, .slice none 0 0] 59)) = .ok () W := hS
  have q0' := x1.c0
  have HX1 := hidden x1
  have HX2 := hidden x2
  have HX3 := hidden hbx
  have HB := hidden hbb
  clear hS b1 b2 hbw hbb hsz x1 x2 hbx
  rw [hk] at q0 q0' hS' HX3
  go_enter Tryz.func75, Tryz.ntmps75
  go_wp2_with fail
  refine Ord.wp_region_detC (by kernel_rfl) [0, 1, 2, 3, 4, 5, 6, 7, 8, 9, 10, 11, 12, 13, 14, 15, 16, 17, 18, 19] 124 [(some 73, .pointer (some ⟨w.heap.size, 2, none⟩)), (some 74, .int .u32 c.tsn), (some 75, .pointer (some ⟨w.heap.size, 7, none⟩)), (some 76, .int .u32 c.win), (some 77, .pointer (some ⟨w.heap.size, 10, none⟩)), (some 78, .slice c.ga c.gl c.gc), (some 79, .pointer (some ⟨w.heap.size, 11, none⟩)), (some 80, .slice c.na c.nl c.nc), (some 81, .pointer (some ⟨w.heap.size, 12, none⟩)), (some 82, .slice c.da c.dl c.dc), (some 83, .pointer (some ⟨w.heap.size + 2, 2, none⟩)), (none, undef), (some 84, .pointer (some ⟨w.heap.size + 2, 7, none⟩)), (none, undef), (some 85, .pointer (some ⟨w.heap.size + 2, 10, none⟩)), (none, undef), (some 86, .pointer (some ⟨w.heap.size + 2, 11, none⟩)), (none, undef), (some 87, .pointer (some ⟨w.heap.size + 2, 12, none⟩)), (none, undef)] rfl (by kernel_rfl) (by rfl) (by kernel_rfl) (fun L y => Bx y w.heap.size c ∧ Bx y (w.heap.size + 1) (zck 0) ∧ Bx y (w.heap.size + 2) (dlrBare16 c L) ∧ Below w.heap.size w y) ?_ ?_ ?_ ?_
  case refine_1 =>
    intro L L' y hL hW
    have e : dlrBare16 c L' = dlrBare16 c L := by unfold dlrBare16; rw [hL 11 (by decide), hL 13 (by decide), hL 15 (by decide), hL 17 (by decide), hL 19 (by decide)]
    rw [e]
    exact hW
  case refine_2 =>
    intro L i o ac w' ho hi hcl hdep hF hW
    have f4 := hF.2.2.2
    match i, ho, hi, hdep with
    | 0, ho, hi, hdep =>
      cases ho
      have da0 : ac.eval (.tmp 1) = .pointer (some ⟨w.heap.size, 0, none⟩) := hF.old 1 rfl
      exact Ord.det_value rfl rfl (e_fa _ da0 rfl (fa2 _ _)) rfl ⟨hW.1, hW.2.1, (by have e : dlrBare16 c (Ord.upd L 0) = dlrBare16 c L := (by unfold dlrBare16; rfl); rw [e]; exact hW.2.2.1), hW.2.2.2⟩
    | 1, ho, hi, hdep =>
      cases ho
      have da0 : ac.eval (.tmp 73) = .pointer (some ⟨w.heap.size, 2, none⟩) := f4 0 73 _ rfl (hdep ⟨0, .data⟩ (by simp) rfl)
      exact Ord.det_value rfl rfl (e_ld _ da0 rfl (ld32 _ _ _ hW.1.c2)) rfl ⟨hW.1, hW.2.1, (by have e : dlrBare16 c (Ord.upd L 1) = dlrBare16 c L := (by unfold dlrBare16; rfl); rw [e]; exact hW.2.2.1), hW.2.2.2⟩
    | 2, ho, hi, hdep =>
      cases ho
      have da0 : ac.eval (.tmp 1) = .pointer (some ⟨w.heap.size, 0, none⟩) := hF.old 1 rfl
      exact Ord.det_value rfl rfl (e_fa _ da0 rfl (fa7 _ _)) rfl ⟨hW.1, hW.2.1, (by have e : dlrBare16 c (Ord.upd L 2) = dlrBare16 c L := (by unfold dlrBare16; rfl); rw [e]; exact hW.2.2.1), hW.2.2.2⟩
    | 3, ho, hi, hdep =>
      cases ho
      have da0 : ac.eval (.tmp 75) = .pointer (some ⟨w.heap.size, 7, none⟩) := f4 2 75 _ rfl (hdep ⟨2, .data⟩ (by simp) rfl)
      exact Ord.det_value rfl rfl (e_ld _ da0 rfl (ld32 _ _ _ hW.1.c7)) rfl ⟨hW.1, hW.2.1, (by have e : dlrBare16 c (Ord.upd L 3) = dlrBare16 c L := (by unfold dlrBare16; rfl); rw [e]; exact hW.2.2.1), hW.2.2.2⟩
    | 4, ho, hi, hdep =>
      cases ho
      have da0 : ac.eval (.tmp 1) = .pointer (some ⟨w.heap.size, 0, none⟩) := hF.old 1 rfl
      exact Ord.det_value rfl rfl (e_fa _ da0 rfl (fa10 _ _)) rfl ⟨hW.1, hW.2.1, (by have e : dlrBare16 c (Ord.upd L 4) = dlrBare16 c L := (by unfold dlrBare16; rfl); rw [e]; exact hW.2.2.1), hW.2.2.2⟩
    | 5, ho, hi, hdep =>
      cases ho
      have da0 : ac.eval (.tmp 77) = .pointer (some ⟨w.heap.size, 10, none⟩) := f4 4 77 _ rfl (hdep ⟨4, .data⟩ (by simp) rfl)
      exact Ord.det_value rfl rfl (e_ld _ da0 rfl (ldG _ _ _ _ _ hW.1.c10)) rfl ⟨hW.1, hW.2.1, (by have e : dlrBare16 c (Ord.upd L 5) = dlrBare16 c L := (by unfold dlrBare16; rfl); rw [e]; exact hW.2.2.1), hW.2.2.2⟩
    | 6, ho, hi, hdep =>
      cases ho
      have da0 : ac.eval (.tmp 1) = .pointer (some ⟨w.heap.size, 0, none⟩) := hF.old 1 rfl
      exact Ord.det_value rfl rfl (e_fa _ da0 rfl (fa11 _ _)) rfl ⟨hW.1, hW.2.1, (by have e : dlrBare16 c (Ord.upd L 6) = dlrBare16 c L := (by unfold dlrBare16; rfl); rw [e]; exact hW.2.2.1), hW.2.2.2⟩
    | 7, ho, hi, hdep =>
      cases ho
      have da0 : ac.eval (.tmp 79) = .pointer (some ⟨w.heap.size, 11, none⟩) := f4 6 79 _ rfl (hdep ⟨6, .data⟩ (by simp) rfl)
      exact Ord.det_value rfl rfl (e_ld _ da0 rfl (ldG _ _ _ _ _ hW.1.c11)) rfl ⟨hW.1, hW.2.1, (by have e : dlrBare16 c (Ord.upd L 7) = dlrBare16 c L := (by unfold dlrBare16; rfl); rw [e]; exact hW.2.2.1), hW.2.2.2⟩
    | 8, ho, hi, hdep =>
      cases ho
      have da0 : ac.eval (.tmp 1) = .pointer (some ⟨w.heap.size, 0, none⟩) := hF.old 1 rfl
      exact Ord.det_value rfl rfl (e_fa _ da0 rfl (fa12 _ _)) rfl ⟨hW.1, hW.2.1, (by have e : dlrBare16 c (Ord.upd L 8) = dlrBare16 c L := (by unfold dlrBare16; rfl); rw [e]; exact hW.2.2.1), hW.2.2.2⟩
    | 9, ho, hi, hdep =>
      cases ho
      have da0 : ac.eval (.tmp 81) = .pointer (some ⟨w.heap.size, 12, none⟩) := f4 8 81 _ rfl (hdep ⟨8, .data⟩ (by simp) rfl)
      exact Ord.det_value rfl rfl (e_ld _ da0 rfl (ldD _ _ _ _ _ hW.1.c12)) rfl ⟨hW.1, hW.2.1, (by have e : dlrBare16 c (Ord.upd L 9) = dlrBare16 c L := (by unfold dlrBare16; rfl); rw [e]; exact hW.2.2.1), hW.2.2.2⟩
    | 10, ho, hi, hdep =>
      cases ho
      have da0 : ac.eval (.tmp 3) = .pointer (some ⟨w.heap.size + 2, 0, none⟩) := hF.old 3 rfl
      exact Ord.det_value rfl rfl (e_fa _ da0 rfl (fa2 _ _)) rfl ⟨hW.1, hW.2.1, (by have e : dlrBare16 c (Ord.upd L 10) = dlrBare16 c L := (by unfold dlrBare16; rfl); rw [e]; exact hW.2.2.1), hW.2.2.2⟩
    | 11, ho, hi, hdep =>
      cases ho
      have da0 : ac.eval (.tmp 83) = .pointer (some ⟨w.heap.size + 2, 2, none⟩) := f4 10 83 _ rfl (hdep ⟨10, .data⟩ (by simp) rfl)
      have da1 : ac.eval (.tmp 74) = .int .u32 c.tsn := f4 1 74 _ rfl (hdep ⟨1, .data⟩ (by simp) rfl)
      have hs := hW.2.2.1.s2 c.tsn
      have e : ({ dlrBare16 c L with tsn := c.tsn } : Ck) = dlrBare16 c (Ord.upd L 11) := by unfold dlrBare16; rfl
      rw [e] at hs
      exact det_sk rfl rfl (o_s32 _ _ da0 da1 rfl hW.2.2.1.c2 (hW.2.2.1.fr 2)) rfl ⟨hW.1.keep (by omega) _ _, hW.2.1.keep (by omega) _ _, hs, hW.2.2.2.setCell (by simp) _⟩
    | 12, ho, hi, hdep =>
      cases ho
      have da0 : ac.eval (.tmp 3) = .pointer (some ⟨w.heap.size + 2, 0, none⟩) := hF.old 3 rfl
      exact Ord.det_value rfl rfl (e_fa _ da0 rfl (fa7 _ _)) rfl ⟨hW.1, hW.2.1, (by have e : dlrBare16 c (Ord.upd L 12) = dlrBare16 c L := (by unfold dlrBare16; rfl); rw [e]; exact hW.2.2.1), hW.2.2.2⟩
    | 13, ho, hi, hdep =>
      cases ho
      have da0 : ac.eval (.tmp 84) = .pointer (some ⟨w.heap.size + 2, 7, none⟩) := f4 12 84 _ rfl (hdep ⟨12, .data⟩ (by simp) rfl)
      have da1 : ac.eval (.tmp 76) = .int .u32 c.win := f4 3 76 _ rfl (hdep ⟨3, .data⟩ (by simp) rfl)
      have hs := hW.2.2.1.s7 c.win
      have e : ({ dlrBare16 c L with win := c.win } : Ck) = dlrBare16 c (Ord.upd L 13) := by unfold dlrBare16; rfl
      rw [e] at hs
      exact det_sk rfl rfl (o_s32 _ _ da0 da1 rfl hW.2.2.1.c7 (hW.2.2.1.fr 7)) rfl ⟨hW.1.keep (by omega) _ _, hW.2.1.keep (by omega) _ _, hs, hW.2.2.2.setCell (by simp) _⟩
    | 14, ho, hi, hdep =>
      cases ho
      have da0 : ac.eval (.tmp 3) = .pointer (some ⟨w.heap.size + 2, 0, none⟩) := hF.old 3 rfl
      exact Ord.det_value rfl rfl (e_fa _ da0 rfl (fa10 _ _)) rfl ⟨hW.1, hW.2.1, (by have e : dlrBare16 c (Ord.upd L 14) = dlrBare16 c L := (by unfold dlrBare16; rfl); rw [e]; exact hW.2.2.1), hW.2.2.2⟩
    | 15, ho, hi, hdep =>
      cases ho
      have da0 : ac.eval (.tmp 85) = .pointer (some ⟨w.heap.size + 2, 10, none⟩) := f4 14 85 _ rfl (hdep ⟨14, .data⟩ (by simp) rfl)
      have da1 : ac.eval (.tmp 78) = .slice c.ga c.gl c.gc := f4 5 78 _ rfl (hdep ⟨5, .data⟩ (by simp) rfl)
      have hs := hW.2.2.1.s10 c.ga c.gl c.gc c.gs
      have e : ({ dlrBare16 c L with ga := c.ga, gl := c.gl, gc := c.gc, gs := c.gs } : Ck) = dlrBare16 c (Ord.upd L 15) := by unfold dlrBare16; rfl
      rw [e] at hs
      exact det_sk rfl rfl (o_sG _ _ da0 da1 rfl hW.2.2.1.c10 (hW.2.2.1.fr 10)) rfl ⟨hW.1.keep (by omega) _ _, hW.2.1.keep (by omega) _ _, hs, hW.2.2.2.setCell (by simp) _⟩
    | 16, ho, hi, hdep =>
      cases ho
      have da0 : ac.eval (.tmp 3) = .pointer (some ⟨w.heap.size + 2, 0, none⟩) := hF.old 3 rfl
      exact Ord.det_value rfl rfl (e_fa _ da0 rfl (fa11 _ _)) rfl ⟨hW.1, hW.2.1, (by have e : dlrBare16 c (Ord.upd L 16) = dlrBare16 c L := (by unfold dlrBare16; rfl); rw [e]; exact hW.2.2.1), hW.2.2.2⟩
    | 17, ho, hi, hdep =>
      cases ho
      have da0 : ac.eval (.tmp 86) = .pointer (some ⟨w.heap.size + 2, 11, none⟩) := f4 16 86 _ rfl (hdep ⟨16, .data⟩ (by simp) rfl)
      have da1 : ac.eval (.tmp 80) = .slice c.na c.nl c.nc := f4 7 80 _ rfl (hdep ⟨7, .data⟩ (by simp) rfl)
      have hs := hW.2.2.1.s11 c.na c.nl c.nc c.ns
      have e : ({ dlrBare16 c L with na := c.na, nl := c.nl, nc := c.nc, ns := c.ns } : Ck) = dlrBare16 c (Ord.upd L 17) := by unfold dlrBare16; rfl
      rw [e] at hs
      exact det_sk rfl rfl (o_sG _ _ da0 da1 rfl hW.2.2.1.c11 (hW.2.2.1.fr 11)) rfl ⟨hW.1.keep (by omega) _ _, hW.2.1.keep (by omega) _ _, hs, hW.2.2.2.setCell (by simp) _⟩
    | 18, ho, hi, hdep =>
      cases ho
      have da0 : ac.eval (.tmp 3) = .pointer (some ⟨w.heap.size + 2, 0, none⟩) := hF.old 3 rfl
      exact Ord.det_value rfl rfl (e_fa _ da0 rfl (fa12 _ _)) rfl ⟨hW.1, hW.2.1, (by have e : dlrBare16 c (Ord.upd L 18) = dlrBare16 c L := (by unfold dlrBare16; rfl); rw [e]; exact hW.2.2.1), hW.2.2.2⟩
    | 19, ho, hi, hdep =>
      cases ho
      have da0 : ac.eval (.tmp 87) = .pointer (some ⟨w.heap.size + 2, 12, none⟩) := f4 18 87 _ rfl (hdep ⟨18, .data⟩ (by simp) rfl)
      have da1 : ac.eval (.tmp 82) = .slice c.da c.dl c.dc := f4 9 82 _ rfl (hdep ⟨9, .data⟩ (by simp) rfl)
      have hs := hW.2.2.1.s12 c.da c.dl c.dc c.ds
      have e : ({ dlrBare16 c L with da := c.da, dl := c.dl, dc := c.dc, ds := c.ds } : Ck) = dlrBare16 c (Ord.upd L 19) := by unfold dlrBare16; rfl
      rw [e] at hs
      exact det_sk rfl rfl (o_sD _ _ da0 da1 rfl hW.2.2.1.c12 (hW.2.2.1.fr 12)) rfl ⟨hW.1.keep (by omega) _ _, hW.2.1.keep (by omega) _ _, hs, hW.2.2.2.setCell (by simp) _⟩
  case refine_4 => exact ⟨HX1.out, HX2.out, HX3.out, Par.below_drewN HB.out 1⟩
  case refine_3 =>
    intro Y hY
    rename_i Q0
    simp only [Ord.puts, Ord.prs, List.filterMap_cons, List.filterMap_nil, Option.map_some, Option.map_none, List.foldl_cons, List.foldl_nil]
    go_simp
    obtain ⟨f1, f2, f3⟩ : (sto (.pointer (some ⟨w.heap.size + 1, 0, none⟩)) (cv ({ zck 16 with tsn := c.tsn, win := c.win, ga := c.ga, gl := c.gl, gc := c.gc, gs := c.gs, na := c.na, nl := c.nl, nc := c.nc, ns := c.ns, da := c.da, dl := c.dl, dc := c.dc, ds := c.ds } : Ck))).run Tryz.prog Y = .ok () (stoW Y (w.heap.size + 1) ({ zck 16 with tsn := c.tsn, win := c.win, ga := c.ga, gl := c.gl, gc := c.gc, gs := c.gs, na := c.na, nl := c.nl, nc := c.nc, ns := c.ns, da := c.da, dl := c.dl, dc := c.dc, ds := c.ds })) ∧ Bx (stoW Y (w.heap.size + 1) ({ zck 16 with tsn := c.tsn, win := c.win, ga := c.ga, gl := c.gl, gc := c.gc, gs := c.gs, na := c.na, nl := c.nl, nc := c.nc, ns := c.ns, da := c.da, dl := c.dl, dc := c.dc, ds := c.ds })) (w.heap.size + 1) ({ zck 16 with tsn := c.tsn, win := c.win, ga := c.ga, gl := c.gl, gc := c.gc, gs := c.gs, na := c.na, nl := c.nl, nc := c.nc, ns := c.ns, da := c.da, dl := c.dl, dc := c.dc, ds := c.ds }) ∧ Below w.heap.size w (stoW Y (w.heap.size + 1) ({ zck 16 with tsn := c.tsn, win := c.win, ga := c.ga, gl := c.gl, gc := c.gc, gs := c.gs, na := c.na, nl := c.nl, nc := c.nc, ns := c.ns, da := c.da, dl := c.dl, dc := c.dc, ds := c.ds })) := ⟨sto_run hY.2.1 _, stoW_bx hY.2.1 _, stoW_below _ hY.2.2.2 (by omega)⟩
    have l3 : (ld (.pointer (some ⟨w.heap.size + 2, 0, none⟩))).run Tryz.prog Y = .ok (cv ({ zck 16 with tsn := c.tsn, win := c.win, ga := c.ga, gl := c.gl, gc := c.gc, gs := c.gs, na := c.na, nl := c.nl, nc := c.nc, ns := c.ns, da := c.da, dl := c.dl, dc := c.dc, ds := c.ds } : Ck)) Y := hY.2.2.1.ld
    have F2 := hidden f2
    have F3 := hidden f3
    clear f2 f3 hY
    go_wp2
    exact bodyPost_ret (v := cv ({ zck 16 with tsn := c.tsn, win := c.win, ga := c.ga, gl := c.gl, gc := c.gc, gs := c.gs, na := c.na, nl := c.nl, nc := c.nc, ns := c.ns, da := c.da, dl := c.dl, dc := c.dc, ds := c.ds })) (cell_res Tryz.results75 F2.out _ rfl) rfl ⟨_, rfl, HV.out, HLS.out, F3.out⟩
def dlrBare6 (c : Ck) (L : Nat → Bool) : Ck := { zck 6 with flags := if L 6 = true then c.flags % 2 else 0, pa := if L 8 = true then c.pa else none, pl := if L 8 = true then c.pl else 0, pc := if L 8 = true then c.pc else 0, ps := if L 8 = true then c.ps else [] }
set_option maxRecDepth 20000 in
set_option maxHeartbeats 2000000 in
theorem rBare6 (c : Ck) (w : World) (hn : Nums c) (hk : c.kind = 6) : Calls Tryz.prog 75 #[cv c] w fun e w' => BareR c w e w' := by
  have HV := hidden (show val c = val ({ zck 6 with flags := c.flags % 2, pa := c.pa, pl := c.pl, pc := c.pc, ps := c.ps } : Ck) ↔ OwnF (val c) by
    have f8 := mod8 hn.2.1
    have f2 := mod2 hn.2.1
    simp only [val, zck, OwnF, FlagOk, FieldOk, Ch.mk.injEq, hk]
    simp [f8, f2])
  have HLS := hidden (show ∀ base W, Lsts base W c → Lsts base W ({ zck 6 with flags := c.flags % 2, pa := c.pa, pl := c.pl, pc := c.pc, ps := c.ps } : Ck) from (fun base W h => ⟨Gaps.nil _ _ _, Gaps.nil _ _ _, Fours.nil _ _ _, ⟨rfl, (fun n hn => by cases hn), Nat.zero_le _, .inl rfl⟩, (fun _ => ⟨rfl, rfl⟩), h.2.2.2.2.2⟩))
  obtain ⟨N0, N1, _⟩ := hn
  have b1 := Bx.new w c
  have b2 : Bx ((w.alloc (.cells (cc c) 59)).alloc (.cells #[.int .u8 0, .int .u8 0, .int .u32 0, .int .u16 0, .int .u16 0, .int .u32 0, .int .u32 0, .int .u32 0, .int .u16 0, .int .u16 0, .slice none 0 0, .slice none 0 0, .slice none 0 0, .slice none 0 0, .slice none 0 0] 59)) (w.heap.size + 1) (zck 0) := by
    have := Bx.new (w.alloc (.cells (cc c) 59)) (zck 0)
    rw [World.size_alloc] at this
    exact this
  obtain ⟨W, hS, hbx, hbw⟩ := newvar ((w.alloc (.cells (cc c) 59)).alloc (.cells #[.int .u8 0, .int .u8 0, .int .u32 0, .int .u16 0, .int .u16 0, .int .u32 0, .int .u32 0, .int .u32 0, .int .u16 0, .int .u16 0, .slice none 0 0, .slice none 0 0, .slice none 0 0, .slice none 0 0, .slice none 0 0] 59)) (zck c.kind)
  have hsz : ((w.alloc (.cells (cc c) 59)).alloc (.cells #[.int .u8 0, .int .u8 0, .int .u32 0, .int .u16 0, .int .u16 0, .int .u32 0, .int .u32 0, .int .u32 0, .int .u16 0, .int .u16 0, .slice none 0 0, .slice none 0 0, .slice none 0 0, .slice none 0 0, .slice none 0 0] 59)).heap.size = w.heap.size + 2 := by simp
  rw [hsz] at hS hbx hbw
  have hbb : Below w.heap.size w W := (((Below.refl _ w).alloc (Nat.le_refl _) (.cells (cc c) 59)).alloc (by simp) _).trans (hbw.mono (by omega))
  have x1 : Bx W w.heap.size c := (b1.alloc (.cells #[.int .u8 0, .int .u8 0, .int .u32 0, .int .u16 0, .int .u16 0, .int .u32 0, .int .u32 0, .int .u32 0, .int .u16 0, .int .u16 0, .slice none 0 0, .slice none 0 0, .slice none 0 0, .slice none 0 0, .slice none 0 0] 59)).later (by rw [hsz]; exact hbw)
  have x2 : Bx W (w.heap.size + 1) (zck 0) := b2.later (by rw [hsz]; exact hbw)
  have q0 := ((Bx.new w c).alloc (.cells #[.int .u8 0, .int .u8 0, .int .u32 0, .int .u16 0, .int .u16 0, .int .u32 0, .int .u32 0, .int .u32 0, .int .u16 0, .int .u16 0, .slice none 0 0, .slice none 0 0, .slice none 0 0, .slice none 0 0, .slice none 0 0] 59)).c0
  have hS' : (sto (.pointer (some ⟨w.heap.size + 2, 0, none⟩)) (.agg #[.int .u8 c.kind, .int .u8 0, .int .u32 0, .int .u16 0, .int .u16 0, .int .u32 0, .int .u32 0, .int .u32 0, .int .u16 0, .int .u16 0, .slice none 0 0, .slice none 0 0, .slice none 0 0, .slice none 0 0, .slice none 0 0])).run Tryz.prog (((w.alloc (.cells (cc c) 59)).alloc (.cells #[.int .u8 0, .int .u8 0, .int .u32 0, .int .u16 0, .int .u16 0, .int .u32 0, .int .u32 0, .int .u32 0, .int .u16 0, .int .u16 0, .slice none 0 0, .slice none 0 0, .slice none 0 0, .slice none 0 0, .slice none 0 0] 59)).alloc (.cells #[.int .u8 0, .int .u8 0, .int .u32 0, .int .u16 0, .int .u16 0, .int .u32 0, .int .u32 0, .int .u32 0, .int .u16 0, .int .u16 0, .slice none 0 0, .slice none 0 0, .slice none 0 0, .slice none 0 0, .slice none 0 0] 59)) = .ok () W := hS
  have q0' := x1.c0
  have HX1 := hidden x1
  have HX2 := hidden x2
  have HX3 := hidden hbx
  have HB := hidden hbb
  clear hS b1 b2 hbw hbb hsz x1 x2 hbx
  rw [hk] at q0 q0' hS' HX3
  go_enter Tryz.func75, Tryz.ntmps75
  go_wp2_with fail
  refine Ord.wp_region_detC (by kernel_rfl) [0, 1, 2, 3, 4, 5, 6, 7, 8] 124 [(some 97, .pointer (some ⟨w.heap.size, 1, none⟩)), (some 98, .int .u8 c.flags), (some 99, .int .u8 (c.flags % 2)), (some 100, .pointer (some ⟨w.heap.size, 14, none⟩)), (some 101, .slice c.pa c.pl c.pc), (some 102, .pointer (some ⟨w.heap.size + 2, 1, none⟩)), (none, undef), (some 103, .pointer (some ⟨w.heap.size + 2, 14, none⟩)), (none, undef)] rfl (by kernel_rfl) (by rfl) (by kernel_rfl) (fun L y => Bx y w.heap.size c ∧ Bx y (w.heap.size + 1) (zck 0) ∧ Bx y (w.heap.size + 2) (dlrBare6 c L) ∧ Below w.heap.size w y) ?_ ?_ ?_ ?_
  case refine_1 =>
    intro L L' y hL hW
    have e : dlrBare6 c L' = dlrBare6 c L := by unfold dlrBare6; rw [hL 6 (by decide), hL 8 (by decide)]
    rw [e]
    exact hW
  case refine_2 =>
    intro L i o ac w' ho hi hcl hdep hF hW
    have f4 := hF.2.2.2
    match i, ho, hi, hdep with
    | 0, ho, hi, hdep =>
      cases ho
      have da0 : ac.eval (.tmp 1) = .pointer (some ⟨w.heap.size, 0, none⟩) := hF.old 1 rfl
      exact Ord.det_value rfl rfl (e_fa _ da0 rfl (fa1 _ _)) rfl ⟨hW.1, hW.2.1, (by have e : dlrBare6 c (Ord.upd L 0) = dlrBare6 c L := (by unfold dlrBare6; rfl); rw [e]; exact hW.2.2.1), hW.2.2.2⟩
    | 1, ho, hi, hdep =>
      cases ho
      have da0 : ac.eval (.tmp 97) = .pointer (some ⟨w.heap.size, 1, none⟩) := f4 0 97 _ rfl (hdep ⟨0, .data⟩ (by simp) rfl)
      exact Ord.det_value rfl rfl (e_ld _ da0 rfl (ld8 _ _ _ hW.1.c1)) rfl ⟨hW.1, hW.2.1, (by have e : dlrBare6 c (Ord.upd L 1) = dlrBare6 c L := (by unfold dlrBare6; rfl); rw [e]; exact hW.2.2.1), hW.2.2.2⟩
    | 2, ho, hi, hdep =>
      cases ho
      have da0 : ac.eval (.tmp 98) = .int .u8 c.flags := f4 1 98 _ rfl (hdep ⟨1, .data⟩ (by simp) rfl)
      exact Ord.det_value rfl rfl (o_rm2 _ da0 N1 rfl) rfl ⟨hW.1, hW.2.1, (by have e : dlrBare6 c (Ord.upd L 2) = dlrBare6 c L := (by unfold dlrBare6; rfl); rw [e]; exact hW.2.2.1), hW.2.2.2⟩
    | 3, ho, hi, hdep =>
      cases ho
      have da0 : ac.eval (.tmp 1) = .pointer (some ⟨w.heap.size, 0, none⟩) := hF.old 1 rfl
      exact Ord.det_value rfl rfl (e_fa _ da0 rfl (fa14 _ _)) rfl ⟨hW.1, hW.2.1, (by have e : dlrBare6 c (Ord.upd L 3) = dlrBare6 c L := (by unfold dlrBare6; rfl); rw [e]; exact hW.2.2.1), hW.2.2.2⟩
    | 4, ho, hi, hdep =>
      cases ho
      have da0 : ac.eval (.tmp 100) = .pointer (some ⟨w.heap.size, 14, none⟩) := f4 3 100 _ rfl (hdep ⟨3, .data⟩ (by simp) rfl)
      exact Ord.det_value rfl rfl (e_ld _ da0 rfl (ldP _ _ _ _ _ hW.1.c14)) rfl ⟨hW.1, hW.2.1, (by have e : dlrBare6 c (Ord.upd L 4) = dlrBare6 c L := (by unfold dlrBare6; rfl); rw [e]; exact hW.2.2.1), hW.2.2.2⟩
    | 5, ho, hi, hdep =>
      cases ho
      have da0 : ac.eval (.tmp 3) = .pointer (some ⟨w.heap.size + 2, 0, none⟩) := hF.old 3 rfl
      exact Ord.det_value rfl rfl (e_fa _ da0 rfl (fa1 _ _)) rfl ⟨hW.1, hW.2.1, (by have e : dlrBare6 c (Ord.upd L 5) = dlrBare6 c L := (by unfold dlrBare6; rfl); rw [e]; exact hW.2.2.1), hW.2.2.2⟩
    | 6, ho, hi, hdep =>
      cases ho
      have da0 : ac.eval (.tmp 102) = .pointer (some ⟨w.heap.size + 2, 1, none⟩) := f4 5 102 _ rfl (hdep ⟨5, .data⟩ (by simp) rfl)
      have da1 : ac.eval (.tmp 99) = .int .u8 (c.flags % 2) := f4 2 99 _ rfl (hdep ⟨2, .data⟩ (by simp) rfl)
      have hs := hW.2.2.1.s1 (c.flags % 2)
      have e : ({ dlrBare6 c L with flags := c.flags % 2 } : Ck) = dlrBare6 c (Ord.upd L 6) := by unfold dlrBare6; rfl
      rw [e] at hs
      exact det_sk rfl rfl (o_s8 _ _ da0 da1 rfl hW.2.2.1.c1 (hW.2.2.1.fr 1)) rfl ⟨hW.1.keep (by omega) _ _, hW.2.1.keep (by omega) _ _, hs, hW.2.2.2.setCell (by simp) _⟩
    | 7, ho, hi, hdep =>
      cases ho
      have da0 : ac.eval (.tmp 3) = .pointer (some ⟨w.heap.size + 2, 0, none⟩) := hF.old 3 rfl
      exact Ord.det_value rfl rfl (e_fa _ da0 rfl (fa14 _ _)) rfl ⟨hW.1, hW.2.1, (by have e : dlrBare6 c (Ord.upd L 7) = dlrBare6 c L := (by unfold dlrBare6; rfl); rw [e]; exact hW.2.2.1), hW.2.2.2⟩
    | 8, ho, hi, hdep =>
      cases ho
      have da0 : ac.eval (.tmp 103) = .pointer (some ⟨w.heap.size + 2, 14, none⟩) := f4 7 103 _ rfl (hdep ⟨7, .data⟩ (by simp) rfl)
      have da1 : ac.eval (.tmp 101) = .slice c.pa c.pl c.pc := f4 4 101 _ rfl (hdep ⟨4, .data⟩ (by simp) rfl)
      have hs := hW.2.2.1.s14 c.pa c.pl c.pc c.ps
      have e : ({ dlrBare6 c L with pa := c.pa, pl := c.pl, pc := c.pc, ps := c.ps } : Ck) = dlrBare6 c (Ord.upd L 8) := by unfold dlrBare6; rfl
      rw [e] at hs
      exact det_sk rfl rfl (o_sP _ _ da0 da1 rfl hW.2.2.1.c14 (hW.2.2.1.fr 14)) rfl ⟨hW.1.keep (by omega) _ _, hW.2.1.keep (by omega) _ _, hs, hW.2.2.2.setCell (by simp) _⟩
  case refine_4 => exact ⟨HX1.out, HX2.out, HX3.out, Par.below_drewN HB.out 1⟩
  case refine_3 =>
    intro Y hY
    rename_i Q0
    simp only [Ord.puts, Ord.prs, List.filterMap_cons, List.filterMap_nil, Option.map_some, Option.map_none, List.foldl_cons, List.foldl_nil]
    go_simp
    obtain ⟨f1, f2, f3⟩ : (sto (.pointer (some ⟨w.heap.size + 1, 0, none⟩)) (cv ({ zck 6 with flags := c.flags % 2, pa := c.pa, pl := c.pl, pc := c.pc, ps := c.ps } : Ck))).run Tryz.prog Y = .ok () (stoW Y (w.heap.size + 1) ({ zck 6 with flags := c.flags % 2, pa := c.pa, pl := c.pl, pc := c.pc, ps := c.ps })) ∧ Bx (stoW Y (w.heap.size + 1) ({ zck 6 with flags := c.flags % 2, pa := c.pa, pl := c.pl, pc := c.pc, ps := c.ps })) (w.heap.size + 1) ({ zck 6 with flags := c.flags % 2, pa := c.pa, pl := c.pl, pc := c.pc, ps := c.ps }) ∧ Below w.heap.size w (stoW Y (w.heap.size + 1) ({ zck 6 with flags := c.flags % 2, pa := c.pa, pl := c.pl, pc := c.pc, ps := c.ps })) := ⟨sto_run hY.2.1 _, stoW_bx hY.2.1 _, stoW_below _ hY.2.2.2 (by omega)⟩
    have l3 : (ld (.pointer (some ⟨w.heap.size + 2, 0, none⟩))).run Tryz.prog Y = .ok (cv ({ zck 6 with flags := c.flags % 2, pa := c.pa, pl := c.pl, pc := c.pc, ps := c.ps } : Ck)) Y := hY.2.2.1.ld
    have F2 := hidden f2
    have F3 := hidden f3
    clear f2 f3 hY
    go_wp2
    exact bodyPost_ret (v := cv ({ zck 6 with flags := c.flags % 2, pa := c.pa, pl := c.pl, pc := c.pc, ps := c.ps })) (cell_res Tryz.results75 F2.out _ rfl) rfl ⟨_, rfl, HV.out, HLS.out, F3.out⟩
def dlrBareO (c : Ck) (L : Nat → Bool) : Ck := { zck c.kind with flags := if L 5 = true then c.flags else 0, ba := if L 7 = true then c.ba else none, bl := if L 7 = true then c.bl else 0, bc := if L 7 = true then c.bc else 0, bs := if L 7 = true then c.bs else [] }
set_option maxRecDepth 20000 in
set_option maxHeartbeats 2000000 in
theorem rBareO (c : Ck) (w : World) (hn : Nums c) (hk : Oth c.kind) : Calls Tryz.prog 75 #[cv c] w fun e w' => BareR c w e w' := by
  have HV := hidden (show val c = val ({ zck c.kind with flags := c.flags, ba := c.ba, bl := c.bl, bc := c.bc, bs := c.bs } : Ck) ↔ OwnF (val c) by
    have f8 := mod8 hn.2.1
    have f2 := mod2 hn.2.1
    simp only [val, zck, OwnF, FlagOk, FieldOk, Ch.mk.injEq]
    obtain ⟨k0, k1, k2, k3, k4, k5, k6, k7, k8, k9, k10, k11, k14, k16⟩ := hk
    simp [f8, f2, k0, k1, k2, k3, k4, k5, k6, k7, k8, k9, k10, k11, k14, k16])
  have HLS := hidden (show ∀ base W, Lsts base W c → Lsts base W ({ zck c.kind with flags := c.flags, ba := c.ba, bl := c.bl, bc := c.bc, bs := c.bs } : Ck) from (fun base W h => ⟨Gaps.nil _ _ _, Gaps.nil _ _ _, Fours.nil _ _ _, h.2.2.2.1, h.2.2.2.2.1, Prms.nil _ _ _⟩))
  obtain ⟨N0, N1, _⟩ := hn
  have b1 := Bx.new w c
  have b2 : Bx ((w.alloc (.cells (cc c) 59)).alloc (.cells #[.int .u8 0, .int .u8 0, .int .u32 0, .int .u16 0, .int .u16 0, .int .u32 0, .int .u32 0, .int .u32 0, .int .u16 0, .int .u16 0, .slice none 0 0, .slice none 0 0, .slice none 0 0, .slice none 0 0, .slice none 0 0] 59)) (w.heap.size + 1) (zck 0) := by
    have := Bx.new (w.alloc (.cells (cc c) 59)) (zck 0)
    rw [World.size_alloc] at this
    exact this
  obtain ⟨W, hS, hbx, hbw⟩ := newvar ((w.alloc (.cells (cc c) 59)).alloc (.cells #[.int .u8 0, .int .u8 0, .int .u32 0, .int .u16 0, .int .u16 0, .int .u32 0, .int .u32 0, .int .u32 0, .int .u16 0, .int .u16 0, .slice none 0 0, .slice none 0 0, .slice none 0 0, .slice none 0 0, .slice none 0 0] 59)) (zck c.kind)
  have hsz : ((w.alloc (.cells (cc c) 59)).alloc (.cells #[.int .u8 0, .int .u8 0, .int .u32 0, .int .u16 0, .int .u16 0, .int .u32 0, .int .u32 0, .int .u32 0, .int .u16 0, .int .u16 0, .slice none 0 0, .slice none 0 0, .slice none 0 0, .slice none 0 0, .slice none 0 0] 59)).heap.size = w.heap.size + 2 := by simp
  rw [hsz] at hS hbx hbw
  have hbb : Below w.heap.size w W := (((Below.refl _ w).alloc (Nat.le_refl _) (.cells (cc c) 59)).alloc (by simp) _).trans (hbw.mono (by omega))
  have x1 : Bx W w.heap.size c := (b1.alloc (.cells #[.int .u8 0, .int .u8 0, .int .u32 0, .int .u16 0, .int .u16 0, .int .u32 0, .int .u32 0, .int .u32 0, .int .u16 0, .int .u16 0, .slice none 0 0, .slice none 0 0, .slice none 0 0, .slice none 0 0, .slice none 0 0] 59)).later (by rw [hsz]; exact hbw)
  have x2 : Bx W (w.heap.size + 1) (zck 0) := b2.later (by rw [hsz]; exact hbw)
  have q0 := ((Bx.new w c).alloc (.cells #[.int .u8 0, .int .u8 0, .int .u32 0, .int .u16 0, .int .u16 0, .int .u32 0, .int .u32 0, .int .u32 0, .int .u16 0, .int .u16 0, .slice none 0 0, .slice none 0 0, .slice none 0 0, .slice none 0 0, .slice none 0 0] 59)).c0
  have hS' : (sto (.pointer (some ⟨w.heap.size + 2, 0, none⟩)) (.agg #[.int .u8 c.kind, .int .u8 0, .int .u32 0, .int .u16 0, .int .u16 0, .int .u32 0, .int .u32 0, .int .u32 0, .int .u16 0, .int .u16 0, .slice none 0 0, .slice none 0 0, .slice none 0 0, .slice none 0 0, .slice none 0 0])).run Tryz.prog (((w.alloc (.cells (cc c) 59)).alloc (.cells #[.int .u8 0, .int .u8 0, .int .u32 0, .int .u16 0, .int .u16 0, .int .u32 0, .int .u32 0, .int .u32 0, .int .u16 0, .int .u16 0, .slice none 0 0, .slice none 0 0, .slice none 0 0, .slice none 0 0, .slice none 0 0] 59)).alloc (.cells #[.int .u8 0, .int .u8 0, .int .u32 0, .int .u16 0, .int .u16 0, .int .u32 0, .int .u32 0, .int .u32 0, .int .u16 0, .int .u16 0, .slice none 0 0, .slice none 0 0, .slice none 0 0, .slice none 0 0, .slice none 0 0] 59)) = .ok () W := hS
  have q0' := x1.c0
  have HX1 := hidden x1
  have HX2 := hidden x2
  have HX3 := hidden hbx
  have HB := hidden hbb
  clear hS b1 b2 hbw hbb hsz x1 x2 hbx
  obtain ⟨k0, k1, k2, k3, k4, k5, k6, k7, k8, k9, k10, k11, k14, k16⟩ := hk
  have e0 := beq_f k0
  have e1 := beq_f k1
  have e2 := beq_f k2
  have e3 := beq_f k3
  have e4 := beq_f k4
  have e5 := beq_f k5
  have e6 := beq_f k6
  have e7 := beq_f k7
  have e8 := beq_f k8
  have e9 := beq_f k9
  have e10 := beq_f k10
  have e11 := beq_f k11
  have e14 := beq_f k14
  have e16 := beq_f k16
  go_enter Tryz.func75, Tryz.ntmps75
  go_wp2_with fail
  refine Ord.wp_region_detC (by kernel_rfl) [0, 1, 2, 3, 4, 5, 6, 7] 124 [(some 9, .pointer (some ⟨w.heap.size, 1, none⟩)), (some 10, .int .u8 c.flags), (some 11, .pointer (some ⟨w.heap.size, 13, none⟩)), (some 12, .slice c.ba c.bl c.bc), (some 13, .pointer (some ⟨w.heap.size + 2, 1, none⟩)), (none, undef), (some 14, .pointer (some ⟨w.heap.size + 2, 13, none⟩)), (none, undef)] rfl (by kernel_rfl) (by rfl) (by kernel_rfl) (fun L y => Bx y w.heap.size c ∧ Bx y (w.heap.size + 1) (zck 0) ∧ Bx y (w.heap.size + 2) (dlrBareO c L) ∧ Below w.heap.size w y) ?_ ?_ ?_ ?_
  case refine_1 =>
    intro L L' y hL hW
    have e : dlrBareO c L' = dlrBareO c L := by unfold dlrBareO; rw [hL 5 (by decide), hL 7 (by decide)]
    rw [e]
    exact hW
  case refine_2 =>
    intro L i o ac w' ho hi hcl hdep hF hW
    have f4 := hF.2.2.2
    match i, ho, hi, hdep with
    | 0, ho, hi, hdep =>
      cases ho
      have da0 : ac.eval (.tmp 1) = .pointer (some ⟨w.heap.size, 0, none⟩) := hF.old 1 rfl
      exact Ord.det_value rfl rfl (e_fa _ da0 rfl (fa1 _ _)) rfl ⟨hW.1, hW.2.1, (by have e : dlrBareO c (Ord.upd L 0) = dlrBareO c L := (by unfold dlrBareO; rfl); rw [e]; exact hW.2.2.1), hW.2.2.2⟩
    | 1, ho, hi, hdep =>
      cases ho
      have da0 : ac.eval (.tmp 9) = .pointer (some ⟨w.heap.size, 1, none⟩) := f4 0 9 _ rfl (hdep ⟨0, .data⟩ (by simp) rfl)
      exact Ord.det_value rfl rfl (e_ld _ da0 rfl (ld8 _ _ _ hW.1.c1)) rfl ⟨hW.1, hW.2.1, (by have e : dlrBareO c (Ord.upd L 1) = dlrBareO c L := (by unfold dlrBareO; rfl); rw [e]; exact hW.2.2.1), hW.2.2.2⟩
    | 2, ho, hi, hdep =>
      cases ho
      have da0 : ac.eval (.tmp 1) = .pointer (some ⟨w.heap.size, 0, none⟩) := hF.old 1 rfl
      exact Ord.det_value rfl rfl (e_fa _ da0 rfl (fa13 _ _)) rfl ⟨hW.1, hW.2.1, (by have e : dlrBareO c (Ord.upd L 2) = dlrBareO c L := (by unfold dlrBareO; rfl); rw [e]; exact hW.2.2.1), hW.2.2.2⟩
    | 3, ho, hi, hdep =>
      cases ho
      have da0 : ac.eval (.tmp 11) = .pointer (some ⟨w.heap.size, 13, none⟩) := f4 2 11 _ rfl (hdep ⟨2, .data⟩ (by simp) rfl)
      exact Ord.det_value rfl rfl (e_ld _ da0 rfl (ldB _ _ _ _ _ hW.1.c13)) rfl ⟨hW.1, hW.2.1, (by have e : dlrBareO c (Ord.upd L 3) = dlrBareO c L := (by unfold dlrBareO; rfl); rw [e]; exact hW.2.2.1), hW.2.2.2⟩
    | 4, ho, hi, hdep =>
      cases ho
      have da0 : ac.eval (.tmp 3) = .pointer (some ⟨w.heap.size + 2, 0, none⟩) := hF.old 3 rfl
      exact Ord.det_value rfl rfl (e_fa _ da0 rfl (fa1 _ _)) rfl ⟨hW.1, hW.2.1, (by have e : dlrBareO c (Ord.upd L 4) = dlrBareO c L := (by unfold dlrBareO; rfl); rw [e]; exact hW.2.2.1), hW.2.2.2⟩
    | 5, ho, hi, hdep =>
      cases ho
      have da0 : ac.eval (.tmp 13) = .pointer (some ⟨w.heap.size + 2, 1, none⟩) := f4 4 13 _ rfl (hdep ⟨4, .data⟩ (by simp) rfl)
      have da1 : ac.eval (.tmp 10) = .int .u8 c.flags := f4 1 10 _ rfl (hdep ⟨1, .data⟩ (by simp) rfl)
      have hs := hW.2.2.1.s1 (c.flags)
      have e : ({ dlrBareO c L with flags := c.flags } : Ck) = dlrBareO c (Ord.upd L 5) := by unfold dlrBareO; rfl
      rw [e] at hs
      exact det_sk rfl rfl (o_s8 _ _ da0 da1 rfl hW.2.2.1.c1 (hW.2.2.1.fr 1)) rfl ⟨hW.1.keep (by omega) _ _, hW.2.1.keep (by omega) _ _, hs, hW.2.2.2.setCell (by simp) _⟩
    | 6, ho, hi, hdep =>
      cases ho
      have da0 : ac.eval (.tmp 3) = .pointer (some ⟨w.heap.size + 2, 0, none⟩) := hF.old 3 rfl
      exact Ord.det_value rfl rfl (e_fa _ da0 rfl (fa13 _ _)) rfl ⟨hW.1, hW.2.1, (by have e : dlrBareO c (Ord.upd L 6) = dlrBareO c L := (by unfold dlrBareO; rfl); rw [e]; exact hW.2.2.1), hW.2.2.2⟩
    | 7, ho, hi, hdep =>
      cases ho
      have da0 : ac.eval (.tmp 14) = .pointer (some ⟨w.heap.size + 2, 13, none⟩) := f4 6 14 _ rfl (hdep ⟨6, .data⟩ (by simp) rfl)
      have da1 : ac.eval (.tmp 12) = .slice c.ba c.bl c.bc := f4 3 12 _ rfl (hdep ⟨3, .data⟩ (by simp) rfl)
      have hs := hW.2.2.1.s13 c.ba c.bl c.bc c.bs
      have e : ({ dlrBareO c L with ba := c.ba, bl := c.bl, bc := c.bc, bs := c.bs } : Ck) = dlrBareO c (Ord.upd L 7) := by unfold dlrBareO; rfl
      rw [e] at hs
      exact det_sk rfl rfl (o_sB _ _ da0 da1 rfl hW.2.2.1.c13 (hW.2.2.1.fr 13)) rfl ⟨hW.1.keep (by omega) _ _, hW.2.1.keep (by omega) _ _, hs, hW.2.2.2.setCell (by simp) _⟩
  case refine_4 => exact ⟨HX1.out, HX2.out, HX3.out, Par.below_drewN HB.out 1⟩
  case refine_3 =>
    intro Y hY
    rename_i Q0
    simp only [Ord.puts, Ord.prs, List.filterMap_cons, List.filterMap_nil, Option.map_some, Option.map_none, List.foldl_cons, List.foldl_nil]
    go_simp
    obtain ⟨f1, f2, f3⟩ : (sto (.pointer (some ⟨w.heap.size + 1, 0, none⟩)) (cv ({ zck c.kind with flags := c.flags, ba := c.ba, bl := c.bl, bc := c.bc, bs := c.bs } : Ck))).run Tryz.prog Y = .ok () (stoW Y (w.heap.size + 1) ({ zck c.kind with flags := c.flags, ba := c.ba, bl := c.bl, bc := c.bc, bs := c.bs })) ∧ Bx (stoW Y (w.heap.size + 1) ({ zck c.kind with flags := c.flags, ba := c.ba, bl := c.bl, bc := c.bc, bs := c.bs })) (w.heap.size + 1) ({ zck c.kind with flags := c.flags, ba := c.ba, bl := c.bl, bc := c.bc, bs := c.bs }) ∧ Below w.heap.size w (stoW Y (w.heap.size + 1) ({ zck c.kind with flags := c.flags, ba := c.ba, bl := c.bl, bc := c.bc, bs := c.bs })) := ⟨sto_run hY.2.1 _, stoW_bx hY.2.1 _, stoW_below _ hY.2.2.2 (by omega)⟩
    have l3 : (ld (.pointer (some ⟨w.heap.size + 2, 0, none⟩))).run Tryz.prog Y = .ok (cv ({ zck c.kind with flags := c.flags, ba := c.ba, bl := c.bl, bc := c.bc, bs := c.bs } : Ck)) Y := hY.2.2.1.ld
    have F2 := hidden f2
    have F3 := hidden f3
    clear f2 f3 hY
    go_wp2
    exact bodyPost_ret (v := cv ({ zck c.kind with flags := c.flags, ba := c.ba, bl := c.bl, bc := c.bc, bs := c.bs })) (cell_res Tryz.results75 F2.out _ rfl) rfl ⟨_, rfl, HV.out, HLS.out, F3.out⟩
set_option maxRecDepth 20000 in
set_option maxHeartbeats 2000000 in
theorem rBare4 (c : Ck) (w : World) (hn : Nums c) (hk : c.kind = 4) : Calls Tryz.prog 75 #[cv c] w fun e w' => BareR c w e w' := by
  have HV := hidden (show val c = val ({ zck 4 with pa := c.pa, pl := c.pl, pc := c.pc, ps := c.ps } : Ck) ↔ OwnF (val c) by
    have f8 := mod8 hn.2.1
    have f2 := mod2 hn.2.1
    simp only [val, zck, OwnF, FlagOk, FieldOk, Ch.mk.injEq, hk]
    simp [f8, f2])
  have HLS := hidden (show ∀ base W, Lsts base W c → Lsts base W ({ zck 4 with pa := c.pa, pl := c.pl, pc := c.pc, ps := c.ps } : Ck) from (fun base W h => ⟨Gaps.nil _ _ _, Gaps.nil _ _ _, Fours.nil _ _ _, ⟨rfl, (fun n hn => by cases hn), Nat.zero_le _, .inl rfl⟩, (fun _ => ⟨rfl, rfl⟩), h.2.2.2.2.2⟩))
  obtain ⟨N0, N1, _⟩ := hn
  have b1 := Bx.new w c
  have b2 : Bx ((w.alloc (.cells (cc c) 59)).alloc (.cells #[.int .u8 0, .int .u8 0, .int .u32 0, .int .u16 0, .int .u16 0, .int .u32 0, .int .u32 0, .int .u32 0, .int .u16 0, .int .u16 0, .slice none 0 0, .slice none 0 0, .slice none 0 0, .slice none 0 0, .slice none 0 0] 59)) (w.heap.size + 1) (zck 0) := by
    have := Bx.new (w.alloc (.cells (cc c) 59)) (zck 0)
    rw [World.size_alloc] at this
    exact this
  obtain ⟨W, hS, hbx, hbw⟩ := newvar ((w.alloc (.cells (cc c) 59)).alloc (.cells #[.int .u8 0, .int .u8 0, .int .u32 0, .int .u16 0, .int .u16 0, .int .u32 0, .int .u32 0, .int .u32 0, .int .u16 0, .int .u16 0, .slice none 0 0, .slice none 0 0, .slice none 0 0, .slice none 0 0, .slice none 0 0] 59)) (zck c.kind)
  have hsz : ((w.alloc (.cells (cc c) 59)).alloc (.cells #[.int .u8 0, .int .u8 0, .int .u32 0, .int .u16 0, .int .u16 0, .int .u32 0, .int .u32 0, .int .u32 0, .int .u16 0, .int .u16 0, .slice none 0 0, .slice none 0 0, .slice none 0 0, .slice none 0 0, .slice none 0 0] 59)).heap.size = w.heap.size + 2 := by simp
  rw [hsz] at hS hbx hbw
  have hbb : Below w.heap.size w W := (((Below.refl _ w).alloc (Nat.le_refl _) (.cells (cc c) 59)).alloc (by simp) _).trans (hbw.mono (by omega))
  have x1 : Bx W w.heap.size c := (b1.alloc (.cells #[.int .u8 0, .int .u8 0, .int .u32 0, .int .u16 0, .int .u16 0, .int .u32 0, .int .u32 0, .int .u32 0, .int .u16 0, .int .u16 0, .slice none 0 0, .slice none 0 0, .slice none 0 0, .slice none 0 0, .slice none 0 0] 59)).later (by rw [hsz]; exact hbw)
  have x2 : Bx W (w.heap.size + 1) (zck 0) := b2.later (by rw [hsz]; exact hbw)
  have q0 := ((Bx.new w c).alloc (.cells #[.int .u8 0, .int .u8 0, .int .u32 0, .int .u16 0, .int .u16 0, .int .u32 0, .int .u32 0, .int .u32 0, .int .u16 0, .int .u16 0, .slice none 0 0, .slice none 0 0, .slice none 0 0, .slice none 0 0, .slice none 0 0] 59)).c0
  have hS' : (sto (.pointer (some ⟨w.heap.size + 2, 0, none⟩)) (.agg #[.int .u8 c.kind, .int .u8 0, .int .u32 0, .int .u16 0, .int .u16 0, .int .u32 0, .int .u32 0, .int .u32 0, .int .u16 0, .int .u16 0, .slice none 0 0, .slice none 0 0, .slice none 0 0, .slice none 0 0, .slice none 0 0])).run Tryz.prog (((w.alloc (.cells (cc c) 59)).alloc (.cells #[.int .u8 0, .int .u8 0, .int .u32 0, .int .u16 0, .int .u16 0, .int .u32 0, .int .u32 0, .int .u32 0, .int .u16 0, .int .u16 0, .slice none 0 0, .slice none 0 0, .slice none 0 0, .slice none 0 0, .slice none 0 0] 59)).alloc (.cells #[.int .u8 0, .int .u8 0, .int .u32 0, .int .u16 0, .int .u16 0, .int .u32 0, .int .u32 0, .int .u32 0, .int .u16 0, .int .u16 0, .slice none 0 0, .slice none 0 0, .slice none 0 0, .slice none 0 0, .slice none 0 0] 59)) = .ok () W := hS
  have q0' := x1.c0
  have HX1 := hidden x1
  have HX2 := hidden x2
  have HX3 := hidden hbx
  have HB := hidden hbb
  clear hS b1 b2 hbw hbb hsz x1 x2 hbx
  rw [hk] at q0 q0' hS' HX3
  have q1 := HX1.out.c14
  have q3 := HX3.out.c14
  have z3 := HX3.out.fr 14
  have hr : c.flags.tmod 2 = c.flags % 2 := Int.tmod_eq_emod_of_nonneg N1.1
  have hw : ∀ z : Int, IntKind.u8.wrap z = z % 256 := fun _ => rfl
  have hw2 : c.flags % 2 % 256 = c.flags % 2 := by omega
  have hY : Bx (W.setCell ⟨w.heap.size + 2, 14, none⟩ (.slice c.pa c.pl c.pc)) w.heap.size c ∧ Bx (W.setCell ⟨w.heap.size + 2, 14, none⟩ (.slice c.pa c.pl c.pc)) (w.heap.size + 1) (zck 0) ∧ Bx (W.setCell ⟨w.heap.size + 2, 14, none⟩ (.slice c.pa c.pl c.pc)) (w.heap.size + 2) ({ zck 4 with pa := c.pa, pl := c.pl, pc := c.pc, ps := c.ps }) ∧ Below w.heap.size w (W.setCell ⟨w.heap.size + 2, 14, none⟩ (.slice c.pa c.pl c.pc)) := ⟨HX1.out.keep (by omega) _ _, HX2.out.keep (by omega) _ _, HX3.out.s14 c.pa c.pl c.pc c.ps, HB.out.setCell (by simp) _⟩
  obtain ⟨f1, f2, f3⟩ : (sto (.pointer (some ⟨w.heap.size + 1, 0, none⟩)) (cv ({ zck 4 with pa := c.pa, pl := c.pl, pc := c.pc, ps := c.ps } : Ck))).run Tryz.prog (W.setCell ⟨w.heap.size + 2, 14, none⟩ (.slice c.pa c.pl c.pc)) = .ok () (stoW (W.setCell ⟨w.heap.size + 2, 14, none⟩ (.slice c.pa c.pl c.pc)) (w.heap.size + 1) ({ zck 4 with pa := c.pa, pl := c.pl, pc := c.pc, ps := c.ps })) ∧ Bx (stoW (W.setCell ⟨w.heap.size + 2, 14, none⟩ (.slice c.pa c.pl c.pc)) (w.heap.size + 1) ({ zck 4 with pa := c.pa, pl := c.pl, pc := c.pc, ps := c.ps })) (w.heap.size + 1) ({ zck 4 with pa := c.pa, pl := c.pl, pc := c.pc, ps := c.ps }) ∧ Below w.heap.size w (stoW (W.setCell ⟨w.heap.size + 2, 14, none⟩ (.slice c.pa c.pl c.pc)) (w.heap.size + 1) ({ zck 4 with pa := c.pa, pl := c.pl, pc := c.pc, ps := c.ps })) := ⟨sto_run hY.2.1 _, stoW_bx hY.2.1 _, stoW_below _ hY.2.2.2 (by omega)⟩
  have l3 : (ld (.pointer (some ⟨w.heap.size + 2, 0, none⟩))).run Tryz.prog (W.setCell ⟨w.heap.size + 2, 14, none⟩ (.slice c.pa c.pl c.pc)) = .ok (cv ({ zck 4 with pa := c.pa, pl := c.pl, pc := c.pc, ps := c.ps } : Ck)) (W.setCell ⟨w.heap.size + 2, 14, none⟩ (.slice c.pa c.pl c.pc)) := hY.2.2.1.ld
  have F2 := hidden f2
  have F3 := hidden f3
  clear f2 f3 hY
  go_enter Tryz.func75, Tryz.ntmps75
  go_wp2
  exact bodyPost_ret (v := cv ({ zck 4 with pa := c.pa, pl := c.pl, pc := c.pc, ps := c.ps })) (cell_res Tryz.results75 F2.out _ rfl) rfl ⟨_, rfl, HV.out, HLS.out, F3.out⟩
set_option maxRecDepth 20000 in
set_option maxHeartbeats 2000000 in
theorem rBare5 (c : Ck) (w : World) (hn : Nums c) (hk : c.kind = 5) : Calls Tryz.prog 75 #[cv c] w fun e w' => BareR c w e w' := by
  have HV := hidden (show val c = val ({ zck 5 with pa := c.pa, pl := c.pl, pc := c.pc, ps := c.ps } : Ck) ↔ OwnF (val c) by
    have f8 := mod8 hn.2.1
    have f2 := mod2 hn.2.1
    simp only [val, zck, OwnF, FlagOk, FieldOk, Ch.mk.injEq, hk]
    simp [f8, f2])
  have HLS := hidden (show ∀ base W, Lsts base W c → Lsts base W ({ zck 5 with pa := c.pa, pl := c.pl, pc := c.pc, ps := c.ps } : Ck) from (fun base W h => ⟨Gaps.nil _ _ _, Gaps.nil _ _ _, Fours.nil _ _ _, ⟨rfl, (fun n hn => by cases hn), Nat.zero_le _, .inl rfl⟩, (fun _ => ⟨rfl, rfl⟩), h.2.2.2.2.2⟩))
  obtain ⟨N0, N1, _⟩ := hn
  have b1 := Bx.new w c
  have b2 : Bx ((w.alloc (.cells (cc c) 59)).alloc (.cells #[.int .u8 0, .int .u8 0, .int .u32 0, .int .u16 0, .int .u16 0, .int .u32 0, .int .u32 0, .int .u32 0, .int .u16 0, .int .u16 0, .slice none 0 0, .slice none 0 0, .slice none 0 0, .slice none 0 0, .slice none 0 0] 59)) (w.heap.size + 1) (zck 0) := by
    have := Bx.new (w.alloc (.cells (cc c) 59)) (zck 0)
    rw [World.size_alloc] at this
    exact this
  obtain ⟨W, hS, hbx, hbw⟩ := newvar ((w.alloc (.cells (cc c) 59)).alloc (.cells #[.int .u8 0, .int .u8 0, .int .u32 0, .int .u16 0, .int .u16 0, .int .u32 0, .int .u32 0, .int .u32 0, .int .u16 0, .int .u16 0, .slice none 0 0, .slice none 0 0, .slice none 0 0, .slice none 0 0, .slice none 0 0] 59)) (zck c.kind)
  have hsz : ((w.alloc (.cells (cc c) 59)).alloc (.cells #[.int .u8 0, .int .u8 0, .int .u32 0, .int .u16 0, .int .u16 0, .int .u32 0, .int .u32 0, .int .u32 0, .int .u16 0, .int .u16 0, .slice none 0 0, .slice none 0 0, .slice none 0 0, .slice none 0 0, .slice none 0 0] 59)).heap.size = w.heap.size + 2 := by simp
  rw [hsz] at hS hbx hbw
  have hbb : Below w.heap.size w W := (((Below.refl _ w).alloc (Nat.le_refl _) (.cells (cc c) 59)).alloc (by simp) _).trans (hbw.mono (by omega))
  have x1 : Bx W w.heap.size c := (b1.alloc (.cells #[.int .u8 0, .int .u8 0, .int .u32 0, .int .u16 0, .int .u16 0, .int .u32 0, .int .u32 0, .int .u32 0, .int .u16 0, .int .u16 0, .slice none 0 0, .slice none 0 0, .slice none 0 0, .slice none 0 0, .slice none 0 0] 59)).later (by rw [hsz]; exact hbw)
  have x2 : Bx W (w.heap.size + 1) (zck 0) := b2.later (by rw [hsz]; exact hbw)
  have q0 := ((Bx.new w c).alloc (.cells #[.int .u8 0, .int .u8 0, .int .u32 0, .int .u16 0, .int .u16 0, .int .u32 0, .int .u32 0, .int .u32 0, .int .u16 0, .int .u16 0, .slice none 0 0, .slice none 0 0, .slice none 0 0, .slice none 0 0, .slice none 0 0] 59)).c0
  have hS' : (sto (.pointer (some ⟨w.heap.size + 2, 0, none⟩)) (.agg #[.int .u8 c.kind, .int .u8 0, .int .u32 0, .int .u16 0, .int .u16 0, .int .u32 0, .int .u32 0, .int .u32 0, .int .u16 0, .int .u16 0, .slice none 0 0, .slice none 0 0, .slice none 0 0, .slice none 0 0, .slice none 0 0])).run Tryz.prog (((w.alloc (.cells (cc c) 59)).alloc (.cells #[.int .u8 0, .int .u8 0, .int .u32 0, .int .u16 0, .int .u16 0, .int .u32 0, .int .u32 0, .int .u32 0, .int .u16 0, .int .u16 0, .slice none 0 0, .slice none 0 0, .slice none 0 0, .slice none 0 0, .slice none 0 0] 59)).alloc (.cells #[.int .u8 0, .int .u8 0, .int .u32 0, .int .u16 0, .int .u16 0, .int .u32 0, .int .u32 0, .int .u32 0, .int .u16 0, .int .u16 0, .slice none 0 0, .slice none 0 0, .slice none 0 0, .slice none 0 0, .slice none 0 0] 59)) = .ok () W := hS
  have q0' := x1.c0
  have HX1 := hidden x1
  have HX2 := hidden x2
  have HX3 := hidden hbx
  have HB := hidden hbb
  clear hS b1 b2 hbw hbb hsz x1 x2 hbx
  rw [hk] at q0 q0' hS' HX3
  have q1 := HX1.out.c14
  have q3 := HX3.out.c14
  have z3 := HX3.out.fr 14
  have hr : c.flags.tmod 2 = c.flags % 2 := Int.tmod_eq_emod_of_nonneg N1.1
  have hw : ∀ z : Int, IntKind.u8.wrap z = z % 256 := fun _ => rfl
  have hw2 : c.flags % 2 % 256 = c.flags % 2 := by omega
  have hY : Bx (W.setCell ⟨w.heap.size + 2, 14, none⟩ (.slice c.pa c.pl c.pc)) w.heap.size c ∧ Bx (W.setCell ⟨w.heap.size + 2, 14, none⟩ (.slice c.pa c.pl c.pc)) (w.heap.size + 1) (zck 0) ∧ Bx (W.setCell ⟨w.heap.size + 2, 14, none⟩ (.slice c.pa c.pl c.pc)) (w.heap.size + 2) ({ zck 5 with pa := c.pa, pl := c.pl, pc := c.pc, ps := c.ps }) ∧ Below w.heap.size w (W.setCell ⟨w.heap.size + 2, 14, none⟩ (.slice c.pa c.pl c.pc)) := ⟨HX1.out.keep (by omega) _ _, HX2.out.keep (by omega) _ _, HX3.out.s14 c.pa c.pl c.pc c.ps, HB.out.setCell (by simp) _⟩
  obtain ⟨f1, f2, f3⟩ : (sto (.pointer (some ⟨w.heap.size + 1, 0, none⟩)) (cv ({ zck 5 with pa := c.pa, pl := c.pl, pc := c.pc, ps := c.ps } : Ck))).run Tryz.prog (W.setCell ⟨w.heap.size + 2, 14, none⟩ (.slice c.pa c.pl c.pc)) = .ok () (stoW (W.setCell ⟨w.heap.size + 2, 14, none⟩ (.slice c.pa c.pl c.pc)) (w.heap.size + 1) ({ zck 5 with pa := c.pa, pl := c.pl, pc := c.pc, ps := c.ps })) ∧ Bx (stoW (W.setCell ⟨w.heap.size + 2, 14, none⟩ (.slice c.pa c.pl c.pc)) (w.heap.size + 1) ({ zck 5 with pa := c.pa, pl := c.pl, pc := c.pc, ps := c.ps })) (w.heap.size + 1) ({ zck 5 with pa := c.pa, pl := c.pl, pc := c.pc, ps := c.ps }) ∧ Below w.heap.size w (stoW (W.setCell ⟨w.heap.size + 2, 14, none⟩ (.slice c.pa c.pl c.pc)) (w.heap.size + 1) ({ zck 5 with pa := c.pa, pl := c.pl, pc := c.pc, ps := c.ps })) := ⟨sto_run hY.2.1 _, stoW_bx hY.2.1 _, stoW_below _ hY.2.2.2 (by omega)⟩
  have l3 : (ld (.pointer (some ⟨w.heap.size + 2, 0, none⟩))).run Tryz.prog (W.setCell ⟨w.heap.size + 2, 14, none⟩ (.slice c.pa c.pl c.pc)) = .ok (cv ({ zck 5 with pa := c.pa, pl := c.pl, pc := c.pc, ps := c.ps } : Ck)) (W.setCell ⟨w.heap.size + 2, 14, none⟩ (.slice c.pa c.pl c.pc)) := hY.2.2.1.ld
  have F2 := hidden f2
  have F3 := hidden f3
  clear f2 f3 hY
  go_enter Tryz.func75, Tryz.ntmps75
  go_wp2
  exact bodyPost_ret (v := cv ({ zck 5 with pa := c.pa, pl := c.pl, pc := c.pc, ps := c.ps })) (cell_res Tryz.results75 F2.out _ rfl) rfl ⟨_, rfl, HV.out, HLS.out, F3.out⟩
set_option maxRecDepth 20000 in
set_option maxHeartbeats 2000000 in
theorem rBare9 (c : Ck) (w : World) (hn : Nums c) (hk : c.kind = 9) : Calls Tryz.prog 75 #[cv c] w fun e w' => BareR c w e w' := by
  have HV := hidden (show val c = val ({ zck 9 with pa := c.pa, pl := c.pl, pc := c.pc, ps := c.ps } : Ck) ↔ OwnF (val c) by
    have f8 := mod8 hn.2.1
    have f2 := mod2 hn.2.1
    simp only [val, zck, OwnF, FlagOk, FieldOk, Ch.mk.injEq, hk]
    simp [f8, f2])
  have HLS := hidden (show ∀ base W, Lsts base W c → Lsts base W ({ zck 9 with pa := c.pa, pl := c.pl, pc := c.pc, ps := c.ps } : Ck) from (fun base W h => ⟨Gaps.nil _ _ _, Gaps.nil _ _ _, Fours.nil _ _ _, ⟨rfl, (fun n hn => by cases hn), Nat.zero_le _, .inl rfl⟩, (fun _ => ⟨rfl, rfl⟩), h.2.2.2.2.2⟩))
  obtain ⟨N0, N1, _⟩ := hn
  have b1 := Bx.new w c
  have b2 : Bx ((w.alloc (.cells (cc c) 59)).alloc (.cells #[.int .u8 0, .int .u8 0, .int .u32 0, .int .u16 0, .int .u16 0, .int .u32 0, .int .u32 0, .int .u32 0, .int .u16 0, .int .u16 0, .slice none 0 0, .slice none 0 0, .slice none 0 0, .slice none 0 0, .slice none 0 0] 59)) (w.heap.size + 1) (zck 0) := by
    have := Bx.new (w.alloc (.cells (cc c) 59)) (zck 0)
    rw [World.size_alloc] at this
    exact this
  obtain ⟨W, hS, hbx, hbw⟩ := newvar ((w.alloc (.cells (cc c) 59)).alloc (.cells #[.int .u8 0, .int .u8 0, .int .u32 0, .int .u16 0, .int .u16 0, .int .u32 0, .int .u32 0, .int .u32 0, .int .u16 0, .int .u16 0, .slice none 0 0, .slice none 0 0, .slice none 0 0, .slice none 0 0, .slice none 0 0] 59)) (zck c.kind)
  have hsz : ((w.alloc (.cells (cc c) 59)).alloc (.cells #[.int .u8 0, .int .u8 0, .int .u32 0, .int .u16 0, .int .u16 0, .int .u32 0, .int .u32 0, .int .u32 0, .int .u16 0, .int .u16 0, .slice none 0 0, .slice none 0 0, .slice none 0 0, .slice none 0 0, .slice none 0 0] 59)).heap.size = w.heap.size + 2 := by simp
  rw [hsz] at hS hbx hbw
  have hbb : Below w.heap.size w W := (((Below.refl _ w).alloc (Nat.le_refl _) (.cells (cc c) 59)).alloc (by simp) _).trans (hbw.mono (by omega))
  have x1 : Bx W w.heap.size c := (b1.alloc (.cells #[.int .u8 0, .int .u8 0, .int .u32 0, .int .u16 0, .int .u16 0, .int .u32 0, .int .u32 0, .int .u32 0, .int .u16 0, .int .u16 0, .slice none 0 0, .slice none 0 0, .slice none 0 0, .slice none 0 0, .slice none 0 0] 59)).later (by rw [hsz]; exact hbw)
  have x2 : Bx W (w.heap.size + 1) (zck 0) := b2.later (by rw [hsz]; exact hbw)
  have q0 := ((Bx.new w c).alloc (.cells #[.int .u8 0, .int .u8 0, .int .u32 0, .int .u16 0, .int .u16 0, .int .u32 0, .int .u32 0, .int .u32 0, .int .u16 0, .int .u16 0, .slice none 0 0, .slice none 0 0, .slice none 0 0, .slice none 0 0, .slice none 0 0] 59)).c0
  have hS' : (sto (.pointer (some ⟨w.heap.size + 2, 0, none⟩)) (.agg #[.int .u8 c.kind, .int .u8 0, .int .u32 0, .int .u16 0, .int .u16 0, .int .u32 0, .int .u32 0, .int .u32 0, .int .u16 0, .int .u16 0, .slice none 0 0, .slice none 0 0, .slice none 0 0, .slice none 0 0, .slice none 0 0])).run Tryz.prog (((w.alloc (.cells (cc c) 59)).alloc (.cells #[.int .u8 0, .int .u8 0, .int .u32 0, .int .u16 0, .int .u16 0, .int .u32 0, .int .u32 0, .int .u32 0, .int .u16 0, .int .u16 0, .slice none 0 0, .slice none 0 0, .slice none 0 0, .slice none 0 0, .slice none 0 0] 59)).alloc (.cells #[.int .u8 0, .int .u8 0, .int .u32 0, .int .u16 0, .int .u16 0, .int .u32 0, .int .u32 0, .int .u32 0, .int .u16 0, .int .u16 0, .slice none 0 0, .slice none 0 0, .slice none 0 0, .slice none 0 0, .slice none 0 0] 59)) = .ok () W := hS
  have q0' := x1.c0
  have HX1 := hidden x1
  have HX2 := hidden x2
  have HX3 := hidden hbx
  have HB := hidden hbb
  clear hS b1 b2 hbw hbb hsz x1 x2 hbx
  rw [hk] at q0 q0' hS' HX3
  have q1 := HX1.out.c14
  have q3 := HX3.out.c14
  have z3 := HX3.out.fr 14
  have hr : c.flags.tmod 2 = c.flags % 2 := Int.tmod_eq_emod_of_nonneg N1.1
  have hw : ∀ z : Int, IntKind.u8.wrap z = z % 256 := fun _ => rfl
  have hw2 : c.flags % 2 % 256 = c.flags % 2 := by omega
  have hY : Bx (W.setCell ⟨w.heap.size + 2, 14, none⟩ (.slice c.pa c.pl c.pc)) w.heap.size c ∧ Bx (W.setCell ⟨w.heap.size + 2, 14, none⟩ (.slice c.pa c.pl c.pc)) (w.heap.size + 1) (zck 0) ∧ Bx (W.setCell ⟨w.heap.size + 2, 14, none⟩ (.slice c.pa c.pl c.pc)) (w.heap.size + 2) ({ zck 9 with pa := c.pa, pl := c.pl, pc := c.pc, ps := c.ps }) ∧ Below w.heap.size w (W.setCell ⟨w.heap.size + 2, 14, none⟩ (.slice c.pa c.pl c.pc)) := ⟨HX1.out.keep (by omega) _ _, HX2.out.keep (by omega) _ _, HX3.out.s14 c.pa c.pl c.pc c.ps, HB.out.setCell (by simp) _⟩
  obtain ⟨f1, f2, f3⟩ : (sto (.pointer (some ⟨w.heap.size + 1, 0, none⟩)) (cv ({ zck 9 with pa := c.pa, pl := c.pl, pc := c.pc, ps := c.ps } : Ck))).run Tryz.prog (W.setCell ⟨w.heap.size + 2, 14, none⟩ (.slice c.pa c.pl c.pc)) = .ok () (stoW (W.setCell ⟨w.heap.size + 2, 14, none⟩ (.slice c.pa c.pl c.pc)) (w.heap.size + 1) ({ zck 9 with pa := c.pa, pl := c.pl, pc := c.pc, ps := c.ps })) ∧ Bx (stoW (W.setCell ⟨w.heap.size + 2, 14, none⟩ (.slice c.pa c.pl c.pc)) (w.heap.size + 1) ({ zck 9 with pa := c.pa, pl := c.pl, pc := c.pc, ps := c.ps })) (w.heap.size + 1) ({ zck 9 with pa := c.pa, pl := c.pl, pc := c.pc, ps := c.ps }) ∧ Below w.heap.size w (stoW (W.setCell ⟨w.heap.size + 2, 14, none⟩ (.slice c.pa c.pl c.pc)) (w.heap.size + 1) ({ zck 9 with pa := c.pa, pl := c.pl, pc := c.pc, ps := c.ps })) := ⟨sto_run hY.2.1 _, stoW_bx hY.2.1 _, stoW_below _ hY.2.2.2 (by omega)⟩
  have l3 : (ld (.pointer (some ⟨w.heap.size + 2, 0, none⟩))).run Tryz.prog (W.setCell ⟨w.heap.size + 2, 14, none⟩ (.slice c.pa c.pl c.pc)) = .ok (cv ({ zck 9 with pa := c.pa, pl := c.pl, pc := c.pc, ps := c.ps } : Ck)) (W.setCell ⟨w.heap.size + 2, 14, none⟩ (.slice c.pa c.pl c.pc)) := hY.2.2.1.ld
  have F2 := hidden f2
  have F3 := hidden f3
  clear f2 f3 hY
  go_enter Tryz.func75, Tryz.ntmps75
  go_wp2
  exact bodyPost_ret (v := cv ({ zck 9 with pa := c.pa, pl := c.pl, pc := c.pc, ps := c.ps })) (cell_res Tryz.results75 F2.out _ rfl) rfl ⟨_, rfl, HV.out, HLS.out, F3.out⟩
set_option maxRecDepth 20000 in
set_option maxHeartbeats 2000000 in
theorem rBare7 (c : Ck) (w : World) (hn : Nums c) (hk : c.kind = 7) : Calls Tryz.prog 75 #[cv c] w fun e w' => BareR c w e w' := by
  have HV := hidden (show val c = val ({ zck 7 with tsn := c.tsn } : Ck) ↔ OwnF (val c) by
    have f8 := mod8 hn.2.1
    have f2 := mod2 hn.2.1
    simp only [val, zck, OwnF, FlagOk, FieldOk, Ch.mk.injEq, hk]
    simp [f8, f2])
  have HLS := hidden (show ∀ base W, Lsts base W c → Lsts base W ({ zck 7 with tsn := c.tsn } : Ck) from (fun base W h => ⟨Gaps.nil _ _ _, Gaps.nil _ _ _, Fours.nil _ _ _, ⟨rfl, (fun n hn => by cases hn), Nat.zero_le _, .inl rfl⟩, (fun _ => ⟨rfl, rfl⟩), Prms.nil _ _ _⟩))
  obtain ⟨N0, N1, _⟩ := hn
  have b1 := Bx.new w c
  have b2 : Bx ((w.alloc (.cells (cc c) 59)).alloc (.cells #[.int .u8 0, .int .u8 0, .int .u32 0, .int .u16 0, .int .u16 0, .int .u32 0, .int .u32 0, .int .u32 0, .int .u16 0, .int .u16 0, .slice none 0 0, .slice none 0 0, .slice none 0 0, .slice none 0 0, .slice none 0 0] 59)) (w.heap.size + 1) (zck 0) := by
    have := Bx.new (w.alloc (.cells (cc c) 59)) (zck 0)
    rw [World.size_alloc] at this
    exact this
  obtain ⟨W, hS, hbx, hbw⟩ := newvar ((w.alloc (.cells (cc c) 59)).alloc (.cells #[.int .u8 0, .int .u8 0, .int .u32 0, .int .u16 0, .int .u16 0, .int .u32 0, .int .u32 0, .int .u32 0, .int .u16 0, .int .u16 0, .slice none 0 0, .slice none 0 0, .slice none 0 0, .slice none 0 0, .slice none 0 0] 59)) (zck c.kind)
  have hsz : ((w.alloc (.cells (cc c) 59)).alloc (.cells #[.int .u8 0, .int .u8 0, .int .u32 0, .int .u16 0, .int .u16 0, .int .u32 0, .int .u32 0, .int .u32 0, .int .u16 0, .int .u16 0, .slice none 0 0, .slice none 0 0, .slice none 0 0, .slice none 0 0, .slice none 0 0] 59)).heap.size = w.heap.size + 2 := by simp
  rw [hsz] at hS hbx hbw
  have hbb : Below w.heap.size w W := (((Below.refl _ w).alloc (Nat.le_refl _) (.cells (cc c) 59)).alloc (by simp) _).trans (hbw.mono (by omega))
  have x1 : Bx W w.heap.size c := (b1.alloc (.cells #[.int .u8 0, .int .u8 0, .int .u32 0, .int .u16 0, .int .u16 0, .int .u32 0, .int .u32 0, .int .u32 0, .int .u16 0, .int .u16 0, .slice none 0 0, .slice none 0 0, .slice none 0 0, .slice none 0 0, .slice none 0 0] 59)).later (by rw [hsz]; exact hbw)
  have x2 : Bx W (w.heap.size + 1) (zck 0) := b2.later (by rw [hsz]; exact hbw)
  have q0 := ((Bx.new w c).alloc (.cells #[.int .u8 0, .int .u8 0, .int .u32 0, .int .u16 0, .int .u16 0, .int .u32 0, .int .u32 0, .int .u32 0, .int .u16 0, .int .u16 0, .slice none 0 0, .slice none 0 0, .slice none 0 0, .slice none 0 0, .slice none 0 0] 59)).c0
  have hS' : (sto (.pointer (some ⟨w.heap.size + 2, 0, none⟩)) (.agg #[.int .u8 c.kind, .int .u8 0, .int .u32 0, .int .u16 0, .int .u16 0, .int .u32 0, .int .u32 0, .int .u32 0, .int .u16 0, .int .u16 0, .slice none 0 0, .slice none 0 0, .slice none 0 0, .slice none 0 0, .slice none 0 0])).run Tryz.prog (((w.alloc (.cells (cc c) 59)).alloc (.cells #[.int .u8 0, .int .u8 0, .int .u32 0, .int .u16 0, .int .u16 0, .int .u32 0, .int .u32 0, .int .u32 0, .int .u16 0, .int .u16 0, .slice none 0 0, .slice none 0 0, .slice none 0 0, .slice none 0 0, .slice none 0 0] 59)).alloc (.cells #[.int .u8 0, .int .u8 0, .int .u32 0, .int .u16 0, .int .u16 0, .int .u32 0, .int .u32 0, .int .u32 0, .int .u16 0, .int .u16 0, .slice none 0 0, .slice none 0 0, .slice none 0 0, .slice none 0 0, .slice none 0 0] 59)) = .ok () W := hS
  have q0' := x1.c0
  have HX1 := hidden x1
  have HX2 := hidden x2
  have HX3 := hidden hbx
  have HB := hidden hbb
  clear hS b1 b2 hbw hbb hsz x1 x2 hbx
  rw [hk] at q0 q0' hS' HX3
  have q1 := HX1.out.c2
  have q3 := HX3.out.c2
  have z3 := HX3.out.fr 2
  have hr : c.flags.tmod 2 = c.flags % 2 := Int.tmod_eq_emod_of_nonneg N1.1
  have hw : ∀ z : Int, IntKind.u8.wrap z = z % 256 := fun _ => rfl
  have hw2 : c.flags % 2 % 256 = c.flags % 2 := by omega
  have hY : Bx (W.setCell ⟨w.heap.size + 2, 2, none⟩ (.int .u32 c.tsn)) w.heap.size c ∧ Bx (W.setCell ⟨w.heap.size + 2, 2, none⟩ (.int .u32 c.tsn)) (w.heap.size + 1) (zck 0) ∧ Bx (W.setCell ⟨w.heap.size + 2, 2, none⟩ (.int .u32 c.tsn)) (w.heap.size + 2) ({ zck 7 with tsn := c.tsn }) ∧ Below w.heap.size w (W.setCell ⟨w.heap.size + 2, 2, none⟩ (.int .u32 c.tsn)) := ⟨HX1.out.keep (by omega) _ _, HX2.out.keep (by omega) _ _, HX3.out.s2 c.tsn, HB.out.setCell (by simp) _⟩
  obtain ⟨f1, f2, f3⟩ : (sto (.pointer (some ⟨w.heap.size + 1, 0, none⟩)) (cv ({ zck 7 with tsn := c.tsn } : Ck))).run Tryz.prog (W.setCell ⟨w.heap.size + 2, 2, none⟩ (.int .u32 c.tsn)) = .ok () (stoW (W.setCell ⟨w.heap.size + 2, 2, none⟩ (.int .u32 c.tsn)) (w.heap.size + 1) ({ zck 7 with tsn := c.tsn })) ∧ Bx (stoW (W.setCell ⟨w.heap.size + 2, 2, none⟩ (.int .u32 c.tsn)) (w.heap.size + 1) ({ zck 7 with tsn := c.tsn })) (w.heap.size + 1) ({ zck 7 with tsn := c.tsn }) ∧ Below w.heap.size w (stoW (W.setCell ⟨w.heap.size + 2, 2, none⟩ (.int .u32 c.tsn)) (w.heap.size + 1) ({ zck 7 with tsn := c.tsn })) := ⟨sto_run hY.2.1 _, stoW_bx hY.2.1 _, stoW_below _ hY.2.2.2 (by omega)⟩
  have l3 : (ld (.pointer (some ⟨w.heap.size + 2, 0, none⟩))).run Tryz.prog (W.setCell ⟨w.heap.size + 2, 2, none⟩ (.int .u32 c.tsn)) = .ok (cv ({ zck 7 with tsn := c.tsn } : Ck)) (W.setCell ⟨w.heap.size + 2, 2, none⟩ (.int .u32 c.tsn)) := hY.2.2.1.ld
  have F2 := hidden f2
  have F3 := hidden f3
  clear f2 f3 hY
  go_enter Tryz.func75, Tryz.ntmps75
  go_wp2
  exact bodyPost_ret (v := cv ({ zck 7 with tsn := c.tsn })) (cell_res Tryz.results75 F2.out _ rfl) rfl ⟨_, rfl, HV.out, HLS.out, F3.out⟩
set_option maxRecDepth 20000 in
set_option maxHeartbeats 2000000 in
theorem rBare8 (c : Ck) (w : World) (hn : Nums c) (hk : c.kind = 8) : Calls Tryz.prog 75 #[cv c] w fun e w' => BareR c w e w' := by
  have HV := hidden (show val c = val (zck 8 : Ck) ↔ OwnF (val c) by
    have f8 := mod8 hn.2.1
    have f2 := mod2 hn.2.1
    simp only [val, zck, OwnF, FlagOk, FieldOk, Ch.mk.injEq, hk]
    simp [f8, f2])
  have HLS := hidden (show ∀ base W, Lsts base W c → Lsts base W (zck 8 : Ck) from (fun base W h => ⟨Gaps.nil _ _ _, Gaps.nil _ _ _, Fours.nil _ _ _, ⟨rfl, (fun n hn => by cases hn), Nat.zero_le _, .inl rfl⟩, (fun _ => ⟨rfl, rfl⟩), Prms.nil _ _ _⟩))
  obtain ⟨N0, N1, _⟩ := hn
  have b1 := Bx.new w c
  have b2 : Bx ((w.alloc (.cells (cc c) 59)).alloc (.cells #[.int .u8 0, .int .u8 0, .int .u32 0, .int .u16 0, .int .u16 0, .int .u32 0, .int .u32 0, .int .u32 0, .int .u16 0, .int .u16 0, .slice none 0 0, .slice none 0 0, .slice none 0 0, .slice none 0 0, .slice none 0 0] 59)) (w.heap.size + 1) (zck 0) := by
    have := Bx.new (w.alloc (.cells (cc c) 59)) (zck 0)
    rw [World.size_alloc] at this
    exact this
  obtain ⟨W, hS, hbx, hbw⟩ := newvar ((w.alloc (.cells (cc c) 59)).alloc (.cells #[.int .u8 0, .int .u8 0, .int .u32 0, .int .u16 0, .int .u16 0, .int .u32 0, .int .u32 0, .int .u32 0, .int .u16 0, .int .u16 0, .slice none 0 0, .slice none 0 0, .slice none 0 0, .slice none 0 0, .slice none 0 0] 59)) (zck c.kind)
  have hsz : ((w.alloc (.cells (cc c) 59)).alloc (.cells #[.int .u8 0, .int .u8 0, .int .u32 0, .int .u16 0, .int .u16 0, .int .u32 0, .int .u32 0, .int .u32 0, .int .u16 0, .int .u16 0, .slice none 0 0, .slice none 0 0, .slice none 0 0, .slice none 0 0, .slice none 0 0] 59)).heap.size = w.heap.size + 2 := by simp
  rw [hsz] at hS hbx hbw
  have hbb : Below w.heap.size w W := (((Below.refl _ w).alloc (Nat.le_refl _) (.cells (cc c) 59)).alloc (by simp) _).trans (hbw.mono (by omega))
  have x1 : Bx W w.heap.size c := (b1.alloc (.cells #[.int .u8 0, .int .u8 0, .int .u32 0, .int .u16 0, .int .u16 0, .int .u32 0, .int .u32 0, .int .u32 0, .int .u16 0, .int .u16 0, .slice none 0 0, .slice none 0 0, .slice none 0 0, .slice none 0 0, .slice none 0 0] 59)).later (by rw [hsz]; exact hbw)
  have x2 : Bx W (w.heap.size + 1) (zck 0) := b2.later (by rw [hsz]; exact hbw)
  have q0 := ((Bx.new w c).alloc (.cells #[.int .u8 0, .int .u8 0, .int .u32 0, .int .u16 0, .int .u16 0, .int .u32 0, .int .u32 0, .int .u32 0, .int .u16 0, .int .u16 0, .slice none 0 0, .slice none 0 0, .slice none 0 0, .slice none 0 0, .slice none 0 0] 59)).c0
  have hS' : (sto (.pointer (some ⟨w.heap.size + 2, 0, none⟩)) (.agg #[.int .u8 c.kind, .int .u8 0, .int .u32 0, .int .u16 0, .int .u16 0, .int .u32 0, .int .u32 0, .int .u32 0, .int .u16 0, .int .u16 0, .slice none 0 0, .slice none 0 0, .slice none 0 0, .slice none 0 0, .slice none 0 0])).run Tryz.prog (((w.alloc (.cells (cc c) 59)).alloc (.cells #[.int .u8 0, .int .u8 0, .int .u32 0, .int .u16 0, .int .u16 0, .int .u32 0, .int .u32 0, .int .u32 0, .int .u16 0, .int .u16 0, .slice none 0 0, .slice none 0 0, .slice none 0 0, .slice none 0 0, .slice none 0 0] 59)).alloc (.cells #[.int .u8 0, .int .u8 0, .int .u32 0, .int .u16 0, .int .u16 0, .int .u32 0, .int .u32 0, .int .u32 0, .int .u16 0, .int .u16 0, .slice none 0 0, .slice none 0 0, .slice none 0 0, .slice none 0 0, .slice none 0 0] 59)) = .ok () W := hS
  have q0' := x1.c0
  have HX1 := hidden x1
  have HX2 := hidden x2
  have HX3 := hidden hbx
  have HB := hidden hbb
  clear hS b1 b2 hbw hbb hsz x1 x2 hbx
  rw [hk] at q0 q0' hS' HX3
  have hY := (show Bx W w.heap.size c ∧ Bx W (w.heap.size + 1) (zck 0) ∧ Bx W (w.heap.size + 2) (zck 8) ∧ Below w.heap.size w W from ⟨HX1.out, HX2.out, HX3.out, HB.out⟩)
  obtain ⟨f1, f2, f3⟩ : (sto (.pointer (some ⟨w.heap.size + 1, 0, none⟩)) (cv (zck 8 : Ck))).run Tryz.prog W = .ok () (stoW W (w.heap.size + 1) (zck 8)) ∧ Bx (stoW W (w.heap.size + 1) (zck 8)) (w.heap.size + 1) (zck 8) ∧ Below w.heap.size w (stoW W (w.heap.size + 1) (zck 8)) := ⟨sto_run hY.2.1 _, stoW_bx hY.2.1 _, stoW_below _ hY.2.2.2 (by omega)⟩
  have l3 : (ld (.pointer (some ⟨w.heap.size + 2, 0, none⟩))).run Tryz.prog W = .ok (cv (zck 8 : Ck)) W := hY.2.2.1.ld
  have F2 := hidden f2
  have F3 := hidden f3
  clear f2 f3 hY
  go_enter Tryz.func75, Tryz.ntmps75
  go_wp2
  exact bodyPost_ret (v := cv (zck 8)) (cell_res Tryz.results75 F2.out _ rfl) rfl ⟨_, rfl, HV.out, HLS.out, F3.out⟩
set_option maxRecDepth 20000 in
set_option maxHeartbeats 2000000 in
theorem rBare11 (c : Ck) (w : World) (hn : Nums c) (hk : c.kind = 11) : Calls Tryz.prog 75 #[cv c] w fun e w' => BareR c w e w' := by
  have HV := hidden (show val c = val (zck 11 : Ck) ↔ OwnF (val c) by
    have f8 := mod8 hn.2.1
    have f2 := mod2 hn.2.1
    simp only [val, zck, OwnF, FlagOk, FieldOk, Ch.mk.injEq, hk]
    simp [f8, f2])
  have HLS := hidden (show ∀ base W, Lsts base W c → Lsts base W (zck 11 : Ck) from (fun base W h => ⟨Gaps.nil _ _ _, Gaps.nil _ _ _, Fours.nil _ _ _, ⟨rfl, (fun n hn => by cases hn), Nat.zero_le _, .inl rfl⟩, (fun _ => ⟨rfl, rfl⟩), Prms.nil _ _ _⟩))
  obtain ⟨N0, N1, _⟩ := hn
  have b1 := Bx.new w c
  have b2 : Bx ((w.alloc (.cells (cc c) 59)).alloc (.cells #[.int .u8 0, .int .u8 0, .int .u32 0, .int .u16 0, .int .u16 0, .int .u32 0, .int .u32 0, .int .u32 0, .int .u16 0, .int .u16 0, .slice none 0 0, .slice none 0 0, .slice none 0 0, .slice none 0 0, .slice none 0 0] 59)) (w.heap.size + 1) (zck 0) := by
    have := Bx.new (w.alloc (.cells (cc c) 59)) (zck 0)
    rw [World.size_alloc] at this
    exact this
  obtain ⟨W, hS, hbx, hbw⟩ := newvar ((w.alloc (.cells (cc c) 59)).alloc (.cells #[.int .u8 0, .int .u8 0, .int .u32 0, .int .u16 0, .int .u16 0, .int .u32 0, .int .u32 0, .int .u32 0, .int .u16 0, .int .u16 0, .slice none 0 0, .slice none 0 0, .slice none 0 0, .slice none 0 0, .slice none 0 0] 59)) (zck c.kind)
  have hsz : ((w.alloc (.cells (cc c) 59)).alloc (.cells #[.int .u8 0, .int .u8 0, .int .u32 0, .int .u16 0, .int .u16 0, .int .u32 0, .int .u32 0, .int .u32 0, .int .u16 0, .int .u16 0, .slice none 0 0, .slice none 0 0, .slice none 0 0, .slice none 0 0, .slice none 0 0] 59)).heap.size = w.heap.size + 2 := by simp
  rw [hsz] at hS hbx hbw
  have hbb : Below w.heap.size w W := (((Below.refl _ w).alloc (Nat.le_refl _) (.cells (cc c) 59)).alloc (by simp) _).trans (hbw.mono (by omega))
  have x1 : Bx W w.heap.size c := (b1.alloc (.cells #[.int .u8 0, .int .u8 0, .int .u32 0, .int .u16 0, .int .u16 0, .int .u32 0, .int .u32 0, .int .u32 0, .int .u16 0, .int .u16 0, .slice none 0 0, .slice none 0 0, .slice none 0 0, .slice none 0 0, .slice none 0 0] 59)).later (by rw [hsz]; exact hbw)
  have x2 : Bx W (w.heap.size + 1) (zck 0) := b2.later (by rw [hsz]; exact hbw)
  have q0 := ((Bx.new w c).alloc (.cells #[.int .u8 0, .int .u8 0, .int .u32 0, .int .u16 0, .int .u16 0, .int .u32 0, .int .u32 0, .int .u32 0, .int .u16 0, .int .u16 0, .slice none 0 0, .slice none 0 0, .slice none 0 0, .slice none 0 0, .slice none 0 0] 59)).c0
  have hS' : (sto (.pointer (some ⟨w.heap.size + 2, 0, none⟩)) (.agg #[.int .u8 c.kind, .int .u8 0, .int .u32 0, .int .u16 0, .int .u16 0, .int .u32 0, .int .u32 0, .int .u32 0, .int .u16 0, .int .u16 0, .slice none 0 0, .slice none 0 0, .slice none 0 0, .slice none 0 0, .slice none 0 0])).run Tryz.prog (((w.alloc (.cells (cc c) 59)).alloc (.cells #[.int .u8 0, .int .u8 0, .int .u32 0, .int .u16 0, .int .u16 0, .int .u32 0, .int .u32 0, .int .u32 0, .int .u16 0, .int .u16 0, .slice none 0 0, .slice none 0 0, .slice none 0 0, .slice none 0 0, .slice none 0 0] 59)).alloc (.cells #[.int .u8 0, .int .u8 0, .int .u32 0, .int .u16 0, .int .u16 0, .int .u32 0, .int .u32 0, .int .u32 0, .int .u16 0, .int .u16 0, .slice none 0 0, .slice none 0 0, .slice none 0 0, .slice none 0 0, .slice none 0 0] 59)) = .ok () W := hS
  have q0' := x1.c0
  have HX1 := hidden x1
  have HX2 := hidden x2
  have HX3 := hidden hbx
  have HB := hidden hbb
  clear hS b1 b2 hbw hbb hsz x1 x2 hbx
  rw [hk] at q0 q0' hS' HX3
  have hY := (show Bx W w.heap.size c ∧ Bx W (w.heap.size + 1) (zck 0) ∧ Bx W (w.heap.size + 2) (zck 11) ∧ Below w.heap.size w W from ⟨HX1.out, HX2.out, HX3.out, HB.out⟩)
  obtain ⟨f1, f2, f3⟩ : (sto (.pointer (some ⟨w.heap.size + 1, 0, none⟩)) (cv (zck 11 : Ck))).run Tryz.prog W = .ok () (stoW W (w.heap.size + 1) (zck 11)) ∧ Bx (stoW W (w.heap.size + 1) (zck 11)) (w.heap.size + 1) (zck 11) ∧ Below w.heap.size w (stoW W (w.heap.size + 1) (zck 11)) := ⟨sto_run hY.2.1 _, stoW_bx hY.2.1 _, stoW_below _ hY.2.2.2 (by omega)⟩
  have l3 : (ld (.pointer (some ⟨w.heap.size + 2, 0, none⟩))).run Tryz.prog W = .ok (cv (zck 11 : Ck)) W := hY.2.2.1.ld
  have F2 := hidden f2
  have F3 := hidden f3
  clear f2 f3 hY
  go_enter Tryz.func75, Tryz.ntmps75
  go_wp2
  exact bodyPost_ret (v := cv (zck 11)) (cell_res Tryz.results75 F2.out _ rfl) rfl ⟨_, rfl, HV.out, HLS.out, F3.out⟩
set_option maxRecDepth 20000 in
set_option maxHeartbeats 2000000 in
theorem rBare14 (c : Ck) (w : World) (hn : Nums c) (hk : c.kind = 14) : Calls Tryz.prog 75 #[cv c] w fun e w' => BareR c w e w' := by
  have HV := hidden (show val c = val ({ zck 14 with flags := c.flags % 2 } : Ck) ↔ OwnF (val c) by
    have f8 := mod8 hn.2.1
    have f2 := mod2 hn.2.1
    simp only [val, zck, OwnF, FlagOk, FieldOk, Ch.mk.injEq, hk]
    simp [f8, f2])
  have HLS := hidden (show ∀ base W, Lsts base W c → Lsts base W ({ zck 14 with flags := c.flags % 2 } : Ck) from (fun base W h => ⟨Gaps.nil _ _ _, Gaps.nil _ _ _, Fours.nil _ _ _, ⟨rfl, (fun n hn => by cases hn), Nat.zero_le _, .inl rfl⟩, (fun _ => ⟨rfl, rfl⟩), Prms.nil _ _ _⟩))
  obtain ⟨N0, N1, _⟩ := hn
  have b1 := Bx.new w c
  have b2 : Bx ((w.alloc (.cells (cc c) 59)).alloc (.cells #[.int .u8 0, .int .u8 0, .int .u32 0, .int .u16 0, .int .u16 0, .int .u32 0, .int .u32 0, .int .u32 0, .int .u16 0, .int .u16 0, .slice none 0 0, .slice none 0 0, .slice none 0 0, .slice none 0 0, .slice none 0 0] 59)) (w.heap.size + 1) (zck 0) := by
    have := Bx.new (w.alloc (.cells (cc c) 59)) (zck 0)
    rw [World.size_alloc] at this
    exact this
  obtain ⟨W, hS, hbx, hbw⟩ := newvar ((w.alloc (.cells (cc c) 59)).alloc (.cells #[.int .u8 0, .int .u8 0, .int .u32 0, .int .u16 0, .int .u16 0, .int .u32 0, .int .u32 0, .int .u32 0, .int .u16 0, .int .u16 0, .slice none 0 0, .slice none 0 0, .slice none 0 0, .slice none 0 0, .slice none 0 0] 59)) (zck c.kind)
  have hsz : ((w.alloc (.cells (cc c) 59)).alloc (.cells #[.int .u8 0, .int .u8 0, .int .u32 0, .int .u16 0, .int .u16 0, .int .u32 0, .int .u32 0, .int .u32 0, .int .u16 0, .int .u16 0, .slice none 0 0, .slice none 0 0, .slice none 0 0, .slice none 0 0, .slice none 0 0] 59)).heap.size = w.heap.size + 2 := by simp
  rw [hsz] at hS hbx hbw
  have hbb : Below w.heap.size w W := (((Below.refl _ w).alloc (Nat.le_refl _) (.cells (cc c) 59)).alloc (by simp) _).trans (hbw.mono (by omega))
  have x1 : Bx W w.heap.size c := (b1.alloc (.cells #[.int .u8 0, .int .u8 0, .int .u32 0, .int .u16 0, .int .u16 0, .int .u32 0, .int .u32 0, .int .u32 0, .int .u16 0, .int .u16 0, .slice none 0 0, .slice none 0 0, .slice none 0 0, .slice none 0 0, .slice none 0 0] 59)).later (by rw [hsz]; exact hbw)
  have x2 : Bx W (w.heap.size + 1) (zck 0) := b2.later (by rw [hsz]; exact hbw)
  have q0 := ((Bx.new w c).alloc (.cells #[.int .u8 0, .int .u8 0, .int .u32 0, .int .u16 0, .int .u16 0, .int .u32 0, .int .u32 0, .int .u32 0, .int .u16 0, .int .u16 0, .slice none 0 0, .slice none 0 0, .slice none 0 0, .slice none 0 0, .slice none 0 0] 59)).c0
  have hS' : (sto (.pointer (some ⟨w.heap.size + 2, 0, none⟩)) (.agg #[.int .u8 c.kind, .int .u8 0, .int .u32 0, .int .u16 0, .int .u16 0, .int .u32 0, .int .u32 0, .int .u32 0, .int .u16 0, .int .u16 0, .slice none 0 0, .slice none 0 0, .slice none 0 0, .slice none 0 0, .slice none 0 0])).run Tryz.prog (((w.alloc (.cells (cc c) 59)).alloc (.cells #[.int .u8 0, .int .u8 0, .int .u32 0, .int .u16 0, .int .u16 0, .int .u32 0, .int .u32 0, .int .u32 0, .int .u16 0, .int .u16 0, .slice none 0 0, .slice none 0 0, .slice none 0 0, .slice none 0 0, .slice none 0 0] 59)).alloc (.cells #[.int .u8 0, .int .u8 0, .int .u32 0, .int .u16 0, .int .u16 0, .int .u32 0, .int .u32 0, .int .u32 0, .int .u16 0, .int .u16 0, .slice none 0 0, .slice none 0 0, .slice none 0 0, .slice none 0 0, .slice none 0 0] 59)) = .ok () W := hS
  have q0' := x1.c0
  have HX1 := hidden x1
  have HX2 := hidden x2
  have HX3 := hidden hbx
  have HB := hidden hbb
  clear hS b1 b2 hbw hbb hsz x1 x2 hbx
  rw [hk] at q0 q0' hS' HX3
  have q1 := HX1.out.c1
  have q3 := HX3.out.c1
  have z3 := HX3.out.fr 1
  have hr : c.flags.tmod 2 = c.flags % 2 := Int.tmod_eq_emod_of_nonneg N1.1
  have hw : ∀ z : Int, IntKind.u8.wrap z = z % 256 := fun _ => rfl
  have hw2 : c.flags % 2 % 256 = c.flags % 2 := by omega
  have hY : Bx (W.setCell ⟨w.heap.size + 2, 1, none⟩ (.int .u8 (c.flags % 2))) w.heap.size c ∧ Bx (W.setCell ⟨w.heap.size + 2, 1, none⟩ (.int .u8 (c.flags % 2))) (w.heap.size + 1) (zck 0) ∧ Bx (W.setCell ⟨w.heap.size + 2, 1, none⟩ (.int .u8 (c.flags % 2))) (w.heap.size + 2) ({ zck 14 with flags := c.flags % 2 }) ∧ Below w.heap.size w (W.setCell ⟨w.heap.size + 2, 1, none⟩ (.int .u8 (c.flags % 2))) := ⟨HX1.out.keep (by omega) _ _, HX2.out.keep (by omega) _ _, HX3.out.s1 (c.flags % 2), HB.out.setCell (by simp) _⟩
  obtain ⟨f1, f2, f3⟩ : (sto (.pointer (some ⟨w.heap.size + 1, 0, none⟩)) (cv ({ zck 14 with flags := c.flags % 2 } : Ck))).run Tryz.prog (W.setCell ⟨w.heap.size + 2, 1, none⟩ (.int .u8 (c.flags % 2))) = .ok () (stoW (W.setCell ⟨w.heap.size + 2, 1, none⟩ (.int .u8 (c.flags % 2))) (w.heap.size + 1) ({ zck 14 with flags := c.flags % 2 })) ∧ Bx (stoW (W.setCell ⟨w.heap.size + 2, 1, none⟩ (.int .u8 (c.flags % 2))) (w.heap.size + 1) ({ zck 14 with flags := c.flags % 2 })) (w.heap.size + 1) ({ zck 14 with flags := c.flags % 2 }) ∧ Below w.heap.size w (stoW (W.setCell ⟨w.heap.size + 2, 1, none⟩ (.int .u8 (c.flags % 2))) (w.heap.size + 1) ({ zck 14 with flags := c.flags % 2 })) := ⟨sto_run hY.2.1 _, stoW_bx hY.2.1 _, stoW_below _ hY.2.2.2 (by omega)⟩
  have l3 : (ld (.pointer (some ⟨w.heap.size + 2, 0, none⟩))).run Tryz.prog (W.setCell ⟨w.heap.size + 2, 1, none⟩ (.int .u8 (c.flags % 2))) = .ok (cv ({ zck 14 with flags := c.flags % 2 } : Ck)) (W.setCell ⟨w.heap.size + 2, 1, none⟩ (.int .u8 (c.flags % 2))) := hY.2.2.1.ld
  have F2 := hidden f2
  have F3 := hidden f3
  clear f2 f3 hY
  go_enter Tryz.func75, Tryz.ntmps75
  go_wp2
  exact bodyPost_ret (v := cv ({ zck 14 with flags := c.flags % 2 })) (cell_res Tryz.results75 F2.out _ rfl) rfl ⟨_, rfl, HV.out, HLS.out, F3.out⟩
set_option maxRecDepth 20000 in
set_option maxHeartbeats 2000000 in
theorem rBare10 (c : Ck) (w : World) (hn : Nums c) (hk : c.kind = 10) : Calls Tryz.prog 75 #[cv c] w fun e w' => BareR c w e w' := by
  have HV := hidden (show val c = val ({ zck 10 with ba := c.ba, bl := c.bl, bc := c.bc, bs := c.bs } : Ck) ↔ OwnF (val c) by
    have f8 := mod8 hn.2.1
    have f2 := mod2 hn.2.1
    simp only [val, zck, OwnF, FlagOk, FieldOk, Ch.mk.injEq, hk]
    simp [f8, f2])
  have HLS := hidden (show ∀ base W, Lsts base W c → Lsts base W ({ zck 10 with ba := c.ba, bl := c.bl, bc := c.bc, bs := c.bs } : Ck) from (fun base W h => ⟨Gaps.nil _ _ _, Gaps.nil _ _ _, Fours.nil _ _ _, h.2.2.2.1, h.2.2.2.2.1, Prms.nil _ _ _⟩))
  obtain ⟨N0, N1, _⟩ := hn
  have b1 := Bx.new w c
  have b2 : Bx ((w.alloc (.cells (cc c) 59)).alloc (.cells #[.int .u8 0, .int .u8 0, .int .u32 0, .int .u16 0, .int .u16 0, .int .u32 0, .int .u32 0, .int .u32 0, .int .u16 0, .int .u16 0, .slice none 0 0, .slice none 0 0, .slice none 0 0, .slice none 0 0, .slice none 0 0] 59)) (w.heap.size + 1) (zck 0) := by
    have := Bx.new (w.alloc (.cells (cc c) 59)) (zck 0)
    rw [World.size_alloc] at this
    exact this
  obtain ⟨W, hS, hbx, hbw⟩ := newvar ((w.alloc (.cells (cc c) 59)).alloc (.cells #[.int .u8 0, .int .u8 0, .int .u32 0, .int .u16 0, .int .u16 0, .int .u32 0, .int .u32 0, .int .u32 0, .int .u16 0, .int .u16 0, .slice none 0 0, .slice none 0 0, .slice none 0 0, .slice none 0 0, .slice none 0 0] 59)) (zck c.kind)
  have hsz : ((w.alloc (.cells (cc c) 59)).alloc (.cells #[.int .u8 0, .int .u8 0, .int .u32 0, .int .u16 0, .int .u16 0, .int .u32 0, .int .u32 0, .int .u32 0, .int .u16 0, .int .u16 0, .slice none 0 0, .slice none 0 0, .slice none 0 0, .slice none 0 0, .slice none 0 0] 59)).heap.size = w.heap.size + 2 := by simp
  rw [hsz] at hS hbx hbw
  have hbb : Below w.heap.size w W := (((Below.refl _ w).alloc (Nat.le_refl _) (.cells (cc c) 59)).alloc (by simp) _).trans (hbw.mono (by omega))
  have x1 : Bx W w.heap.size c := (b1.alloc (.cells #[.int .u8 0, .int .u8 0, .int .u32 0, .int .u16 0, .int .u16 0, .int .u32 0, .int .u32 0, .int .u32 0, .int .u16 0, .int .u16 0, .slice none 0 0, .slice none 0 0, .slice none 0 0, .slice none 0 0, .slice none 0 0] 59)).later (by rw [hsz]; exact hbw)
  have x2 : Bx W (w.heap.size + 1) (zck 0) := b2.later (by rw [hsz]; exact hbw)
  have q0 := ((Bx.new w c).alloc (.cells #[.int .u8 0, .int .u8 0, .int .u32 0, .int .u16 0, .int .u16 0, .int .u32 0, .int .u32 0, .int .u32 0, .int .u16 0, .int .u16 0, .slice none 0 0, .slice none 0 0, .slice none 0 0, .slice none 0 0, .slice none 0 0] 59)).c0
  have hS' : (sto (.pointer (some ⟨w.heap.size + 2, 0, none⟩)) (.agg #[.int .u8 c.kind, .int .u8 0, .int .u32 0, .int .u16 0, .int .u16 0, .int .u32 0, .int .u32 0, .int .u32 0, .int .u16 0, .int .u16 0, .slice none 0 0, .slice none 0 0, .slice none 0 0, .slice none 0 0, .slice none 0 0])).run Tryz.prog (((w.alloc (.cells (cc c) 59)).alloc (.cells #[.int .u8 0, .int .u8 0, .int .u32 0, .int .u16 0, .int .u16 0, .int .u32 0, .int .u32 0, .int .u32 0, .int .u16 0, .int .u16 0, .slice none 0 0, .slice none 0 0, .slice none 0 0, .slice none 0 0, .slice none 0 0] 59)).alloc (.cells #[.int .u8 0, .int .u8 0, .int .u32 0, .int .u16 0, .int .u16 0, .int .u32 0, .int .u32 0, .int .u32 0, .int .u16 0, .int .u16 0, .slice none 0 0, .slice none 0 0, .slice none 0 0, .slice none 0 0, .slice none 0 0] 59)) = .ok () W := hS
  have q0' := x1.c0
  have HX1 := hidden x1
  have HX2 := hidden x2
  have HX3 := hidden hbx
  have HB := hidden hbb
  clear hS b1 b2 hbw hbb hsz x1 x2 hbx
  rw [hk] at q0 q0' hS' HX3
  have q1 := HX1.out.c13
  have q3 := HX3.out.c13
  have z3 := HX3.out.fr 13
  have hr : c.flags.tmod 2 = c.flags % 2 := Int.tmod_eq_emod_of_nonneg N1.1
  have hw : ∀ z : Int, IntKind.u8.wrap z = z % 256 := fun _ => rfl
  have hw2 : c.flags % 2 % 256 = c.flags % 2 := by omega
  have hY : Bx (W.setCell ⟨w.heap.size + 2, 13, none⟩ (.slice c.ba c.bl c.bc)) w.heap.size c ∧ Bx (W.setCell ⟨w.heap.size + 2, 13, none⟩ (.slice c.ba c.bl c.bc)) (w.heap.size + 1) (zck 0) ∧ Bx (W.setCell ⟨w.heap.size + 2, 13, none⟩ (.slice c.ba c.bl c.bc)) (w.heap.size + 2) ({ zck 10 with ba := c.ba, bl := c.bl, bc := c.bc, bs := c.bs }) ∧ Below w.heap.size w (W.setCell ⟨w.heap.size + 2, 13, none⟩ (.slice c.ba c.bl c.bc)) := ⟨HX1.out.keep (by omega) _ _, HX2.out.keep (by omega) _ _, HX3.out.s13 c.ba c.bl c.bc c.bs, HB.out.setCell (by simp) _⟩
  obtain ⟨f1, f2, f3⟩ : (sto (.pointer (some ⟨w.heap.size + 1, 0, none⟩)) (cv ({ zck 10 with ba := c.ba, bl := c.bl, bc := c.bc, bs := c.bs } : Ck))).run Tryz.prog (W.setCell ⟨w.heap.size + 2, 13, none⟩ (.slice c.ba c.bl c.bc)) = .ok () (stoW (W.setCell ⟨w.heap.size + 2, 13, none⟩ (.slice c.ba c.bl c.bc)) (w.heap.size + 1) ({ zck 10 with ba := c.ba, bl := c.bl, bc := c.bc, bs := c.bs })) ∧ Bx (stoW (W.setCell ⟨w.heap.size + 2, 13, none⟩ (.slice c.ba c.bl c.bc)) (w.heap.size + 1) ({ zck 10 with ba := c.ba, bl := c.bl, bc := c.bc, bs := c.bs })) (w.heap.size + 1) ({ zck 10 with ba := c.ba, bl := c.bl, bc := c.bc, bs := c.bs }) ∧ Below w.heap.size w (stoW (W.setCell ⟨w.heap.size + 2, 13, none⟩ (.slice c.ba c.bl c.bc)) (w.heap.size + 1) ({ zck 10 with ba := c.ba, bl := c.bl, bc := c.bc, bs := c.bs })) := ⟨sto_run hY.2.1 _, stoW_bx hY.2.1 _, stoW_below _ hY.2.2.2 (by omega)⟩
  have l3 : (ld (.pointer (some ⟨w.heap.size + 2, 0, none⟩))).run Tryz.prog (W.setCell ⟨w.heap.size + 2, 13, none⟩ (.slice c.ba c.bl c.bc)) = .ok (cv ({ zck 10 with ba := c.ba, bl := c.bl, bc := c.bc, bs := c.bs } : Ck)) (W.setCell ⟨w.heap.size + 2, 13, none⟩ (.slice c.ba c.bl c.bc)) := hY.2.2.1.ld
  have F2 := hidden f2
  have F3 := hidden f3
  clear f2 f3 hY
  go_enter Tryz.func75, Tryz.ntmps75
  go_wp2
  exact bodyPost_ret (v := cv ({ zck 10 with ba := c.ba, bl := c.bl, bc := c.bc, bs := c.bs })) (cell_res Tryz.results75 F2.out _ rfl) rfl ⟨_, rfl, HV.out, HLS.out, F3.out⟩
theorem rBare (c : Ck) (w : World) (hn : Nums c) : Calls Tryz.prog 75 #[cv c] w fun e w' => BareR c w e w' := by
  rcases kind_cases c.kind with h | h | h | h | h | h | h | h | h | h | h | h | h | h | h
  · exact rBare0 c w hn h
  · exact rBare1 c w hn h
  · exact rBare2 c w hn h
  · exact rBare3 c w hn h
  · exact rBare4 c w hn h
  · exact rBare5 c w hn h
  · exact rBare6 c w hn h
  · exact rBare7 c w hn h
  · exact rBare8 c w hn h
  · exact rBare9 c w hn h
  · exact rBare10 c w hn h
  · exact rBare11 c w hn h
  · exact rBare14 c w hn h
  · exact rBare16 c w hn h
  · exact rBareO c w hn h
end Go.Proofs.YtmnndkhdekpecaaGreatDoor.Chu
namespace Go.Proofs.YtmnndkhdekpecaaGreatDoor.Chu
open Go.ChangeShapes Go.WideShapes Go.ChangeAt Go.RowKit
open Par (hidden Bytes Row Prm Prms cell_lt Cap cells_new cutA thrown form_of)
set_option linter.unusedVariables false
set_option linter.unusedSimpArgs false
attribute [local go_sem ↓] execOp_ld execOp_bx execOp_st
attribute [local go_sem] run_box

theorem beat_says (c : Ck) (w : World) : Calls Tryz.prog 76 #[cv c] w fun e w' => e = .returned (.bool (beat c.kind)) ∧ Below w.heap.size w w' := by
  have q0 := (Bx.new w c).c0
  have HB := hidden (below_box w c)
  by_cases h4 : c.kind = 4
  · have e : beat c.kind = true := by rw [h4]; rfl
    rw [e]
    rw [h4] at q0
    go_enter Tryz.func76, Tryz.ntmps76
    go_wp2
    go_ret
    exact ⟨rfl, HB.out⟩
  · have e4 := beq_f h4
    have e : beat c.kind = (c.kind == 5) := by unfold beat; rw [e4]; rfl
    rw [e]
    go_enter Tryz.func76, Tryz.ntmps76
    go_wp2
    go_ret
    exact ⟨rfl, HB.out⟩
theorem rValue (base : Nat) (c : Ck) (w : World) (hc : Chk base w c) (hO : OwnF (val c)) (hp : pcode (c.ps.map Par.val) = 0) (hG : c.gl ≤ 4096) (hN : c.nl ≤ 4096) (hD : c.dl ≤ 4096) (hbm : c.bl ≤ 140737488351232) :
    Calls Tryz.prog 53 #[cv c] w fun e w' => ValR w (vby (val c)) e w' := by
  by_cases h0 : c.kind = 0
  · exact rValue0 base c w hc h0 hO hp hG hN hD hbm
  by_cases h1 : c.kind = 1
  · exact rValue1 base c w hc h1 hO hp hG hN hD hbm
  by_cases h2 : c.kind = 2
  · exact rValue2 base c w hc h2 hO hp hG hN hD hbm
  by_cases h3 : c.kind = 3
  · exact rValue3 base c w hc h3 hO hp hG hN hD hbm
  by_cases h7 : c.kind = 7
  · exact rValue7 base c w hc h7 hO hp hG hN hD hbm
  by_cases h16 : c.kind = 16
  · exact rValue16 base c w hc h16 hO hp hG hN hD hbm
  exact rValueO base c w hc h0 h1 h2 h3 h7 h16 hO hp hG hN hD hbm
/-- a value's length, in memory -/
theorem ValR.len {w w' : World} {c : Ck} {e : Ending} (hp : pcode (c.ps.map Par.val) = 0) (h : ValR w (vby (val c)) e w') : ∃ a cap, e = .returned (.slice a (vlen (val c)) cap) ∧ Below w.heap.size w w' := by
  obtain ⟨w0, v, rfl, hB, hb⟩ := h
  obtain ⟨a, cap, rfl⟩ := hB.form
  rw [vby_len _ hp]
  exact ⟨a, cap, rfl, hb.trans (hB.2.mono hb.size)⟩
/-- not -/
def notV : Value → Value
  | .bool b => .bool (!b)
  | _ => undef
section
variable {a : Act} {o : Oper} {w : World}
theorem o_not {b : Bool} (x : Operand) (h0 : a.eval x = .bool b) (ho : o.op = .unOp .not 4 x) : (execOp a.eval o).run Tryz.prog w = .ok (.value (.bool (!b))) w := by
  unfold execOp
  rw [ho]
  simp only [h0]
  go_simp
theorem o_bare {u0 : Value} (x : Operand) (h0 : a.eval x = u0) (ho : o.op = .call { callee := .value (.func 75), args := #[x], argTypes := #[59] }) : (execOp a.eval o).run Tryz.prog w = .ok (.enter 75 #[u0]) w := by
  unfold execOp
  rw [ho]
  go_simp
  exact by cases x <;> simpa [Act.eval] using h0
theorem o_same {u0 u1 : Value} (x y : Operand) (h0 : a.eval x = u0) (h1 : a.eval y = u1) (ho : o.op = .call { callee := .value (.func 46), args := #[x, y], argTypes := #[59, 59] }) : (execOp a.eval o).run Tryz.prog w = .ok (.enter 46 #[u0, u1]) w := by
  unfold execOp
  rw [ho]
  go_simp
  exact ⟨by cases x <;> simpa [Act.eval] using h0, by cases y <;> simpa [Act.eval] using h1⟩
end
theorem one_beat {base n : Nat} {w : World} {pa : Option Addr} {ps : List Prm} (h : Prms base w pa n ps) : OneBeat (ps.map Par.val) → n = 1 := by
  rintro ⟨b, hb⟩
  have := congrArg List.length hb
  have := h.1
  simp at *
  omega
theorem one_type {base : Nat} {w : World} {pa : Option Addr} {ps : List Prm} (h : Prms base w pa 1 ps) : ∃ b off t, pa = some ⟨b, off, none⟩ ∧ w.cell? ⟨b, off, none⟩ = some (.int .u16 t) ∧ (t = 1 ↔ OneBeat (ps.map Par.val)) := by
  obtain ⟨b, off, t, a, len, cap, zs, rfl, hpk, hc1, _, _⟩ := h.get (k := 0) (by omega)
  obtain ⟨p, rfl⟩ : ∃ p, ps = [p] := by
    match ps, h.1 with
    | [p], _ => exact ⟨p, rfl⟩
  simp only [List.getElem?_cons_zero, Option.some.injEq] at hpk
  subst hpk
  simp only [Nat.zero_mul, Nat.add_zero] at hc1
  exact ⟨b, off, t, rfl, hc1, by simp [OneBeat, Par.val]⟩
set_option maxRecDepth 20000 in
set_option maxHeartbeats 8000000 in
theorem rCheck (base : Nat) (c : Ck) (w : World) (hc : Chk base w c) (hbm : c.bl ≤ 140737488351232) : Calls Tryz.prog 44 #[cv c] w fun e w' => e = .returned (.int .i64 (chk (val c))) ∧ Below w.heap.size w w' := by
  have b1 := Bx.new w c
  have hb := below_box w c
  have HCK := hidden (hc.later hb)
  have HW := hidden hb
  have HX := hidden b1
  clear hc hb b1
  go_enter Tryz.func44, Tryz.ntmps44
  go_wp2_with fail
  generalize hWW : w.alloc (.cells (cc c) 59) = W at *
  clear hWW
  have HBX := hidden (show ∀ y, Below W.heap.size W y → Bx y w.heap.size c from fun y hy => HX.out.later hy)
  refine Ord.wp_region_ex (X := Value × Value) (by kernel_rfl) 69 (fun x => [(some 5, cv c), (some 6, cv c), (some 7, x.1), (some 8, x.2), (some 9, notV x.2)]) [some 5, some 6, some 7, some 8, some 9] rfl (by kernel_rfl) (by rfl) (fun _ => rfl) (by kernel_rfl) (Ord.St 2 3 (fun y => Below W.heap.size W y) (fun u y => ∃ d, u = cv d ∧ (val c = val d ↔ OwnF (val c)) ∧ (∀ base W, Lsts base W c → Lsts base W d) ∧ Below W.heap.size W y) (fun u y => ∃ t : Bool, u = .bool t ∧ (t = true ↔ OwnF (val c)) ∧ Below W.heap.size W y)) (fun _ _ _ _ hL h => h.ext (n := 5) (by decide) (by decide) hL) ?_ ?_ (undef, undef) ?_
  case refine_1 =>
    intro x L i o ac w' ho hi hcl hdep hF hW
    have hK := hW.all (fun h => h) (fun _ h => h.choose_spec.2.2.2) (fun _ h => h.choose_spec.2.2)
    have f1' : ac.tmps.size = 69 := hF.1
    match i, ho, hi, hdep with
    | 0, ho, hi, hdep =>
      cases ho
      have da0 : ac.eval (.tmp 1) = .pointer (some ⟨w.heap.size, 0, none⟩) := hF.old 1 rfl
      exact Ord.ex_value x rfl rfl (e_ldc _ da0 rfl (HBX.out _ hK)) rfl (hW.keep (by decide) (by decide))
    | 1, ho, hi, hdep =>
      cases ho
      have da0 : ac.eval (.tmp 1) = .pointer (some ⟨w.heap.size, 0, none⟩) := hF.old 1 rfl
      exact Ord.ex_value x rfl rfl (e_ldc _ da0 rfl (HBX.out _ hK)) rfl (hW.keep (by decide) (by decide))
    | 2, ho, hi, hdep =>
      cases ho
      have da0 : ac.eval (.tmp 6) = cv c := hF.2.2.2 1 6 _ rfl (hdep ⟨1, .data⟩ (by simp) rfl)
      refine Ord.ex_call x (fun v => (v, x.2)) rfl rfl (o_bare _ da0 rfl) (fun _ => rfl) (fun v j hj => match j, hj with | 0, _ => rfl | 1, _ => rfl | 2, hj => absurd hj (by rw [hi]; decide) | 3, _ => rfl | 4, _ => rfl | _ + 5, _ => rfl) (Calls.mono (rBare c w' HCK.out.1) ?_)
      rintro e w1 ⟨d, rfl, h1, h2, h3⟩
      exact ⟨_, rfl, hW.one (by decide) hi (⟨d, rfl, h1, h2, hK.trans (h3.mono hK.size)⟩)⟩
    | 3, ho, hi, hdep =>
      cases ho
      have da0 : ac.eval (.tmp 5) = cv c := hF.2.2.2 0 5 _ rfl (hdep ⟨0, .data⟩ (by simp) rfl)
      have da1 : ac.eval (.tmp 7) = x.1 := hF.2.2.2 2 7 _ rfl (hdep ⟨2, .data⟩ (by simp) rfl)
      obtain ⟨d, hv1, hiff, hls, _⟩ := hW.2.1 (hdep ⟨2, .data⟩ (by simp) rfl) hi
      refine Ord.ex_call x (fun v => (x.1, v)) rfl rfl (o_same _ _ da0 (hv1 ▸ da1) rfl) (fun _ => rfl) (fun v j hj => match j, hj with | 0, _ => rfl | 1, _ => rfl | 2, _ => rfl | 3, hj => absurd hj (by rw [hi]; decide) | 4, hj => absurd (hcl 4 _ rfl hj ⟨3, .data⟩ (by simp) rfl) (by rw [hi]; decide) | _ + 5, _ => rfl) (Calls.mono (rSame base base w' c d (HCK.out.2.later hK) (hls _ _ (HCK.out.2.later hK))) ?_)
      rintro e w1 ⟨t, rfl, h1, h3⟩
      exact ⟨_, rfl, Ord.St.two (hdep ⟨2, .data⟩ (by simp) rfl) (⟨t, rfl, h1.trans hiff, hK.trans (h3.mono hK.size)⟩)⟩
    | 4, ho, hi, hdep =>
      cases ho
      have da0 : ac.eval (.tmp 8) = x.2 := hF.2.2.2 3 8 _ rfl (hdep ⟨3, .data⟩ (by simp) rfl)
      obtain ⟨t, hv2, _⟩ := hW.2.2.1 (hdep ⟨3, .data⟩ (by simp) rfl)
      exact Ord.ex_value x rfl rfl (o_not _ (da0.trans hv2) rfl) (by rw [show ((_ : List (Option Nat × Value)).getD 4 (none, undef)).2 = notV x.2 from rfl, hv2]; rfl) (hW.keep (by decide) (by decide))
  case refine_3 => exact ⟨fun _ => Par.below_drewN (Below.refl _ _) 1, fun e => Bool.noConfusion e, fun e => Bool.noConfusion e, fun e => Bool.noConfusion e⟩
  case refine_2 =>
    intro x W1 hS
    obtain ⟨t, ht, hiff, bw1⟩ := hS.2.2.1 rfl
    clear hS
    obtain ⟨x1, x2⟩ := x
    simp only at ht
    subst ht
    simp only [Ord.puts, Ord.prs, List.filterMap_cons, List.filterMap_nil, Option.map_some, List.foldl_cons, List.foldl_nil, notV]
    go_simp
    have HIF := hidden hiff
    have HB1 := hidden bw1
    have HW1 := hidden (HW.out.trans (bw1.mono HW.out.size))
    clear hiff
    cases t with
    | false =>
      have HO := hidden (show ¬ OwnF (val c) from fun h => by have := HIF.out.2 h; cases this)
      clear bw1
      go_wp2
      go_ret
      exact fin_i (chk_63 HO.out).symm HW1.out
    | true =>
      have HO := hidden (HIF.out.1 rfl)
      have hbx := HBX.out _ bw1
      have q0 := hbx.c0
      have q13 := hbx.c13
      have q10 := hbx.c10
      have q11 := hbx.c11
      have q12 := hbx.c12
      have l0 := hbx.ld
      have HCK1 := hidden (HCK.out.later bw1)
      have hbl : (val c).bs = [] ↔ c.bl = 0 := by
        have := HCK.out.2.2.2.2.1.1
        show c.bs = [] ↔ _
        rw [← List.length_eq_zero_iff, this]
      clear bw1 hbx
      by_cases h62 : c.kind = 0 ∧ c.bl = 0
      · obtain ⟨hk0, hb0⟩ := h62
        have HF := hidden (chk_62 HO.out ⟨hk0, hbl.2 hb0⟩)
        rw [hk0] at q0
        rw [hb0] at q13
        clear hbl
        go_wp2
        go_ret
        exact fin_i HF.out.symm HW1.out
      have HN62 := hidden (show ¬ ((val c).kind = 0 ∧ (val c).bs = []) from fun h => h62 ⟨h.1, hbl.1 h.2⟩)
      clear hbl
      by_cases hk0 : c.kind = 0
      · have hbl : ¬ c.bl = 0 := fun h => h62 ⟨hk0, h⟩
        have i0 : ((c.bl : Int) == 0) = false := beq_f (by omega)
        have hbt : beat c.kind = false := by rw [hk0]; rfl
        rw [hk0] at q0
        go_wp2_with fail
        refine Calls.mono (beat_says c _) ?_
        rintro e w2 ⟨rfl, b2⟩
        have B2 := HB1.out.trans (b2.mono HB1.out.size)
        have HB2 := hidden B2
        have HW2 := hidden (HW.out.trans (B2.mono HW.out.size))
        have q14 := (HBX.out _ B2).c14
        clear b2 B2
        rw [hbt]
        have HNB := hidden (show ¬ (beat (val c).kind = true ∧ ¬ OneBeat (val c).ps) from fun h => by rw [show beat (val c).kind = false from hbt] at h; cases h.1)
        have HP := hidden (show Past (val c) from ⟨HO.out, HN62.out, HNB.out⟩)
        have q14b := (HBX.out _ HB2.out).c14
        have EN := hidden (Par.rEncode base w2 c.pa c.pl c.pc c.ps (HCK.out.later HB2.out).2.2.2.2.2.2)
        go_wp2_with fail
        refine Calls.mono EN.out ?_
        rintro e w3 ⟨pv, cd, rfl, hcd, _, _, be⟩
        have hcdv := code_val (HCK.out.later HB2.out).2.2.2.2.2.2.2.2.1 hcd
        have B3 := HB2.out.trans (be.mono HB2.out.size)
        have HB3 := hidden B3
        have HW3 := hidden (HW.out.trans (B3.mono HW.out.size))
        have hbx := HBX.out _ B3
        have r10 := hbx.c10
        have r11 := hbx.c11
        have r12 := hbx.c12
        have l3 := hbx.ld
        have HCK3 := hidden (HCK.out.later B3)
        have HGL := hidden (show (val c).gs.length = c.gl from HCK.out.2.1.1)
        have HNL := hidden (show (val c).ns.length = c.nl from HCK.out.2.2.1.1)
        have HDL := hidden (show (val c).ds.length = c.dl from HCK.out.2.2.2.1.1)
        have HCD := hidden hcdv
        have HCC := hidden hcd
        clear EN hcd hcdv be B3 hbx q14b
        by_cases hg : 4096 < c.gl
        · have HF := hidden (chk_3 HP.out (.inl (by rw [HGL.out]; exact hg)))
          have i1 : (4096 : Int) < (c.gl : Int) := by omega
          go_wp2
          go_ret
          exact fin_i HF.out.symm HW3.out
        have i1 : ¬ (4096 : Int) < (c.gl : Int) := by omega
        by_cases hn : 4096 < c.nl
        · have HF := hidden (chk_3 HP.out (.inr (.inl (by rw [HNL.out]; exact hn))))
          have i2 : (4096 : Int) < (c.nl : Int) := by omega
          go_wp2
          go_ret
          exact fin_i HF.out.symm HW3.out
        have i2 : ¬ (4096 : Int) < (c.nl : Int) := by omega
        by_cases hd : 4096 < c.dl
        · have HF := hidden (chk_3 HP.out (.inr (.inr (by rw [HDL.out]; exact hd))))
          have i3 : (4096 : Int) < (c.dl : Int) := by omega
          go_wp2
          go_ret
          exact fin_i HF.out.symm HW3.out
        have i3 : ¬ (4096 : Int) < (c.dl : Int) := by omega
        have HLE := hidden (show ¬ (4096 < (val c).gs.length ∨ 4096 < (val c).ns.length ∨ 4096 < (val c).ds.length) by rw [HGL.out, HNL.out, HDL.out]; omega)
        rcases HCC.out with ⟨_, rfl⟩ | ⟨_, _, rfl⟩ | ⟨_, _, rfl⟩
        · have HF := hidden (show chk (val c) = 3 from (chk_p HP.out HLE.out (by have := HCD.out; show pcode (c.ps.map Par.val) ≠ 0; omega)).trans HCD.out.symm)
          go_wp2
          go_ret
          exact fin_i HF.out.symm HW3.out
        · have HF := hidden (show chk (val c) = 2 from (chk_p HP.out HLE.out (by have := HCD.out; show pcode (c.ps.map Par.val) ≠ 0; omega)).trans HCD.out.symm)
          go_wp2
          go_ret
          exact fin_i HF.out.symm HW3.out
        · have VA := hidden ((rValue base c w3 HCK3.out HO.out HCD.out.symm (by omega) (by omega) (by omega) hbm).mono fun e w' h => h.len HCD.out.symm)
          go_wp2_with fail
          refine Calls.mono VA.out ?_
          rintro e w4 ⟨va, vc, rfl, b4⟩
          have HW4 := hidden (HW3.out.trans (b4.mono HW3.out.size))
          clear VA b4
          by_cases hv : 65531 < vlen (val c)
          · have HF := hidden (chk_2 HP.out HLE.out HCD.out.symm hv)
            have i4 : (65531 : Int) < (vlen (val c) : Int) := by omega
            go_wp2
            go_ret
            exact fin_i HF.out.symm HW4.out
          · have HF := hidden (chk_0 HP.out HLE.out HCD.out.symm hv)
            have i4 : ¬ (65531 : Int) < (vlen (val c) : Int) := by omega
            go_wp2
            go_ret
            exact fin_i HF.out.symm HW4.out
      · have i0 := beq_f hk0
        go_wp2_with fail
        refine Calls.mono (beat_says c _) ?_
        rintro e w2 ⟨rfl, b2⟩
        have B2 := HB1.out.trans (b2.mono HB1.out.size)
        have HB2 := hidden B2
        have HW2 := hidden (HW.out.trans (B2.mono HW.out.size))
        have q14 := (HBX.out _ B2).c14
        clear b2 B2
        cases hbt : beat c.kind with
        | false =>
          have HNB := hidden (show ¬ (beat (val c).kind = true ∧ ¬ OneBeat (val c).ps) from fun h => by rw [show beat (val c).kind = false from hbt] at h; cases h.1)
          have HP := hidden (show Past (val c) from ⟨HO.out, HN62.out, HNB.out⟩)
          have q14b := (HBX.out _ HB2.out).c14
          have EN := hidden (Par.rEncode base w2 c.pa c.pl c.pc c.ps (HCK.out.later HB2.out).2.2.2.2.2.2)
          go_wp2_with fail
          refine Calls.mono EN.out ?_
          rintro e w3 ⟨pv, cd, rfl, hcd, _, _, be⟩
          have hcdv := code_val (HCK.out.later HB2.out).2.2.2.2.2.2.2.2.1 hcd
          have B3 := HB2.out.trans (be.mono HB2.out.size)
          have HB3 := hidden B3
          have HW3 := hidden (HW.out.trans (B3.mono HW.out.size))
          have hbx := HBX.out _ B3
          have r10 := hbx.c10
          have r11 := hbx.c11
          have r12 := hbx.c12
          have l3 := hbx.ld
          have HCK3 := hidden (HCK.out.later B3)
          have HGL := hidden (show (val c).gs.length = c.gl from HCK.out.2.1.1)
          have HNL := hidden (show (val c).ns.length = c.nl from HCK.out.2.2.1.1)
          have HDL := hidden (show (val c).ds.length = c.dl from HCK.out.2.2.2.1.1)
          have HCD := hidden hcdv
          have HCC := hidden hcd
          clear EN hcd hcdv be B3 hbx q14b
          by_cases hg : 4096 < c.gl
          · have HF := hidden (chk_3 HP.out (.inl (by rw [HGL.out]; exact hg)))
            have i1 : (4096 : Int) < (c.gl : Int) := by omega
            go_wp2
            go_ret
            exact fin_i HF.out.symm HW3.out
          have i1 : ¬ (4096 : Int) < (c.gl : Int) := by omega
          by_cases hn : 4096 < c.nl
          · have HF := hidden (chk_3 HP.out (.inr (.inl (by rw [HNL.out]; exact hn))))
            have i2 : (4096 : Int) < (c.nl : Int) := by omega
            go_wp2
            go_ret
            exact fin_i HF.out.symm HW3.out
          have i2 : ¬ (4096 : Int) < (c.nl : Int) := by omega
          by_cases hd : 4096 < c.dl
          · have HF := hidden (chk_3 HP.out (.inr (.inr (by rw [HDL.out]; exact hd))))
            have i3 : (4096 : Int) < (c.dl : Int) := by omega
            go_wp2
            go_ret
            exact fin_i HF.out.symm HW3.out
          have i3 : ¬ (4096 : Int) < (c.dl : Int) := by omega
          have HLE := hidden (show ¬ (4096 < (val c).gs.length ∨ 4096 < (val c).ns.length ∨ 4096 < (val c).ds.length) by rw [HGL.out, HNL.out, HDL.out]; omega)
          rcases HCC.out with ⟨_, rfl⟩ | ⟨_, _, rfl⟩ | ⟨_, _, rfl⟩
          · have HF := hidden (show chk (val c) = 3 from (chk_p HP.out HLE.out (by have := HCD.out; show pcode (c.ps.map Par.val) ≠ 0; omega)).trans HCD.out.symm)
            go_wp2
            go_ret
            exact fin_i HF.out.symm HW3.out
          · have HF := hidden (show chk (val c) = 2 from (chk_p HP.out HLE.out (by have := HCD.out; show pcode (c.ps.map Par.val) ≠ 0; omega)).trans HCD.out.symm)
            go_wp2
            go_ret
            exact fin_i HF.out.symm HW3.out
          · have VA := hidden ((rValue base c w3 HCK3.out HO.out HCD.out.symm (by omega) (by omega) (by omega) hbm).mono fun e w' h => h.len HCD.out.symm)
            go_wp2_with fail
            refine Calls.mono VA.out ?_
            rintro e w4 ⟨va, vc, rfl, b4⟩
            have HW4 := hidden (HW3.out.trans (b4.mono HW3.out.size))
            clear VA b4
            by_cases hv : 65531 < vlen (val c)
            · have HF := hidden (chk_2 HP.out HLE.out HCD.out.symm hv)
              have i4 : (65531 : Int) < (vlen (val c) : Int) := by omega
              go_wp2
              go_ret
              exact fin_i HF.out.symm HW4.out
            · have HF := hidden (chk_0 HP.out HLE.out HCD.out.symm hv)
              have i4 : ¬ (65531 : Int) < (vlen (val c) : Int) := by omega
              go_wp2
              go_ret
              exact fin_i HF.out.symm HW4.out
        | true =>
          have HPR := hidden (HCK.out.later HB2.out).2.2.2.2.2.2
          by_cases hp1 : c.pl = 1
          · rw [hp1] at q14
            obtain ⟨b, off, ty, hpa, hcell, hty⟩ := one_type (show Prms base w2 c.pa 1 c.ps by rw [← hp1]; exact HPR.out)
            rw [hpa] at q14
            by_cases hty1 : ty = 1
            · have HNB := hidden (show ¬ (beat (val c).kind = true ∧ ¬ OneBeat (val c).ps) from fun h => h.2 (hty.1 hty1))
              rw [hty1] at hcell
              clear hty
              have HP := hidden (show Past (val c) from ⟨HO.out, HN62.out, HNB.out⟩)
              have EN := hidden (Par.rEncode base w2 (some ⟨b, off, none⟩) 1 c.pc c.ps (by rw [← hpa, ← hp1]; exact HPR.out))
              clear hpa hp1
              go_wp2_with fail
              refine Calls.mono EN.out ?_
              rintro e w3 ⟨pv, cd, rfl, hcd, _, _, be⟩
              have hcdv := code_val (HCK.out.later HB2.out).2.2.2.2.2.2.2.2.1 hcd
              have B3 := HB2.out.trans (be.mono HB2.out.size)
              have HB3 := hidden B3
              have HW3 := hidden (HW.out.trans (B3.mono HW.out.size))
              have hbx := HBX.out _ B3
              have r10 := hbx.c10
              have r11 := hbx.c11
              have r12 := hbx.c12
              have l3 := hbx.ld
              have HCK3 := hidden (HCK.out.later B3)
              have HGL := hidden (show (val c).gs.length = c.gl from HCK.out.2.1.1)
              have HNL := hidden (show (val c).ns.length = c.nl from HCK.out.2.2.1.1)
              have HDL := hidden (show (val c).ds.length = c.dl from HCK.out.2.2.2.1.1)
              have HCD := hidden hcdv
              have HCC := hidden hcd
              clear EN hcd hcdv be B3 hbx
              by_cases hg : 4096 < c.gl
              · have HF := hidden (chk_3 HP.out (.inl (by rw [HGL.out]; exact hg)))
                have i1 : (4096 : Int) < (c.gl : Int) := by omega
                go_wp2
                go_ret
                exact fin_i HF.out.symm HW3.out
              have i1 : ¬ (4096 : Int) < (c.gl : Int) := by omega
              by_cases hn : 4096 < c.nl
              · have HF := hidden (chk_3 HP.out (.inr (.inl (by rw [HNL.out]; exact hn))))
                have i2 : (4096 : Int) < (c.nl : Int) := by omega
                go_wp2
                go_ret
                exact fin_i HF.out.symm HW3.out
              have i2 : ¬ (4096 : Int) < (c.nl : Int) := by omega
              by_cases hd : 4096 < c.dl
              · have HF := hidden (chk_3 HP.out (.inr (.inr (by rw [HDL.out]; exact hd))))
                have i3 : (4096 : Int) < (c.dl : Int) := by omega
                go_wp2
                go_ret
                exact fin_i HF.out.symm HW3.out
              have i3 : ¬ (4096 : Int) < (c.dl : Int) := by omega
              have HLE := hidden (show ¬ (4096 < (val c).gs.length ∨ 4096 < (val c).ns.length ∨ 4096 < (val c).ds.length) by rw [HGL.out, HNL.out, HDL.out]; omega)
              rcases HCC.out with ⟨_, rfl⟩ | ⟨_, _, rfl⟩ | ⟨_, _, rfl⟩
              · have HF := hidden (show chk (val c) = 3 from (chk_p HP.out HLE.out (by have := HCD.out; show pcode (c.ps.map Par.val) ≠ 0; omega)).trans HCD.out.symm)
                go_wp2
                go_ret
                exact fin_i HF.out.symm HW3.out
              · have HF := hidden (show chk (val c) = 2 from (chk_p HP.out HLE.out (by have := HCD.out; show pcode (c.ps.map Par.val) ≠ 0; omega)).trans HCD.out.symm)
                go_wp2
                go_ret
                exact fin_i HF.out.symm HW3.out
              · have VA := hidden ((rValue base c w3 HCK3.out HO.out HCD.out.symm (by omega) (by omega) (by omega) hbm).mono fun e w' h => h.len HCD.out.symm)
                go_wp2_with fail
                refine Calls.mono VA.out ?_
                rintro e w4 ⟨va, vc, rfl, b4⟩
                have HW4 := hidden (HW3.out.trans (b4.mono HW3.out.size))
                clear VA b4
                by_cases hv : 65531 < vlen (val c)
                · have HF := hidden (chk_2 HP.out HLE.out HCD.out.symm hv)
                  have i4 : (65531 : Int) < (vlen (val c) : Int) := by omega
                  go_wp2
                  go_ret
                  exact fin_i HF.out.symm HW4.out
                · have HF := hidden (chk_0 HP.out HLE.out HCD.out.symm hv)
                  have i4 : ¬ (65531 : Int) < (vlen (val c) : Int) := by omega
                  go_wp2
                  go_ret
                  exact fin_i HF.out.symm HW4.out
            · have i1 := bne_t hty1
              have HF := hidden (chk_61 HO.out HN62.out ⟨hbt, fun h => hty1 (hty.2 h)⟩)
              clear hty
              go_wp2
              go_ret
              exact fin_i HF.out.symm HW2.out
          · have i1 : ((c.pl : Int) != 1) = true := bne_t (by omega)
            have HF := hidden (chk_61 HO.out HN62.out ⟨hbt, fun h => hp1 (one_beat HPR.out h)⟩)
            go_wp2
            go_ret
            exact fin_i HF.out.symm HW2.out
end Go.Proofs.YtmnndkhdekpecaaGreatDoor.Chu
namespace Go.Proofs.YtmnndkhdekpecaaGreatDoor.Ord
open Go.ChangeShapes Go.WideShapes Go.ChangeAt Go.RowKit
set_option linter.unusedVariables false
/-- three steps, one behind the other -/
def St3 (c0 c1 c2 : Nat) (A0 : World → Prop) (A1 A2 A3 : Value → World → Prop) (x : Value × Value × Value) (L : Nat → Bool) (w : World) : Prop :=
  (L c0 = false → A0 w) ∧ (L c0 = true → L c1 = false → A1 x.1 w) ∧ (L c1 = true → L c2 = false → A2 x.2.1 w) ∧ (L c2 = true → A3 x.2.2 w) ∧ (L c1 = true → L c0 = true) ∧ (L c2 = true → L c1 = true)
section
variable {c0 c1 c2 : Nat} {A0 : World → Prop} {A1 A2 A3 : Value → World → Prop} {x : Value × Value × Value} {L L' : Nat → Bool} {w w' : World} {v : Value}
theorem St3.ext {n : Nat} (h0 : c0 < n) (h1 : c1 < n) (h2 : c2 < n) (hL : ∀ j, j < n → L j = L' j) (h : St3 c0 c1 c2 A0 A1 A2 A3 x L w) : St3 c0 c1 c2 A0 A1 A2 A3 x L' w := by
  unfold St3 at h ⊢
  rw [← hL c0 h0, ← hL c1 h1, ← hL c2 h2]
  exact h
theorem St3.keep {i : Nat} (h0 : decide (c0 = i) = false) (h1 : decide (c1 = i) = false) (h2 : decide (c2 = i) = false) (h : St3 c0 c1 c2 A0 A1 A2 A3 x L w) : St3 c0 c1 c2 A0 A1 A2 A3 x (upd L i) w := by
  have e0 : upd L i c0 = L c0 := by unfold upd; rw [h0]; rfl
  have e1 : upd L i c1 = L c1 := by unfold upd; rw [h1]; rfl
  have e2 : upd L i c2 = L c2 := by unfold upd; rw [h2]; rfl
  unfold St3 at h ⊢
  rw [e0, e1, e2]
  exact h
theorem St3.one (n1 : decide (c1 = c0) = false) (n2 : decide (c2 = c0) = false) (hL : L c0 = false) (h : St3 c0 c1 c2 A0 A1 A2 A3 x L w) (hv : A1 v w') : St3 c0 c1 c2 A0 A1 A2 A3 (v, x.2) (upd L c0) w' := by
  have h1 : L c1 = false := by
    cases hb : L c1 with
    | false => rfl
    | true => rw [h.2.2.2.2.1 hb] at hL; cases hL
  have h2 : L c2 = false := by
    cases hb : L c2 with
    | false => rfl
    | true => rw [h.2.2.2.2.2 hb] at h1; cases h1
  have e0 : upd L c0 c0 = true := by unfold upd; rw [decide_eq_true rfl]; rfl
  have e1 : upd L c0 c1 = false := by unfold upd; rw [n1, h1]; rfl
  have e2 : upd L c0 c2 = false := by unfold upd; rw [n2, h2]; rfl
  unfold St3
  rw [e0, e1, e2]
  exact ⟨(fun e => Bool.noConfusion e), (fun _ _ => hv), (fun e => Bool.noConfusion e), (fun e => Bool.noConfusion e), (fun _ => rfl), (fun e => Bool.noConfusion e)⟩
theorem St3.two (n2 : decide (c2 = c1) = false) (h0 : L c0 = true) (hL : L c1 = false) (h : St3 c0 c1 c2 A0 A1 A2 A3 x L w) (hv : A2 v w') : St3 c0 c1 c2 A0 A1 A2 A3 (x.1, v, x.2.2) (upd L c1) w' := by
  have h2 : L c2 = false := by
    cases hb : L c2 with
    | false => rfl
    | true => rw [h.2.2.2.2.2 hb] at hL; cases hL
  have e0 : upd L c1 c0 = true := by unfold upd; rw [h0, Bool.or_true]
  have e1 : upd L c1 c1 = true := by unfold upd; rw [decide_eq_true rfl]; rfl
  have e2 : upd L c1 c2 = false := by unfold upd; rw [n2, h2]; rfl
  unfold St3
  rw [e0, e1, e2]
  exact ⟨(fun e => Bool.noConfusion e), (fun _ e => Bool.noConfusion e), (fun _ _ => hv), (fun e => Bool.noConfusion e), (fun _ => rfl), (fun _ => rfl)⟩
theorem St3.three (h1 : L c1 = true) (h : St3 c0 c1 c2 A0 A1 A2 A3 x L w) (hv : A3 v w') : St3 c0 c1 c2 A0 A1 A2 A3 (x.1, x.2.1, v) (upd L c2) w' := by
  have h0 := h.2.2.2.2.1 h1
  have e0 : upd L c2 c0 = true := by unfold upd; rw [h0, Bool.or_true]
  have e1 : upd L c2 c1 = true := by unfold upd; rw [h1, Bool.or_true]
  have e2 : upd L c2 c2 = true := by unfold upd; rw [decide_eq_true rfl]; rfl
  unfold St3
  rw [e0, e1, e2]
  exact ⟨(fun e => Bool.noConfusion e), (fun _ e => Bool.noConfusion e), (fun _ e => Bool.noConfusion e), (fun _ => hv), (fun _ => rfl), (fun _ => rfl)⟩
theorem St3.all {R : Prop} (h : St3 c0 c1 c2 A0 A1 A2 A3 x L w) (h0 : A0 w → R) (h1 : ∀ v, A1 v w → R) (h2 : ∀ v, A2 v w → R) (h3 : ∀ v, A3 v w → R) : R := by
  cases hc : L c2 with
  | true => exact h3 _ (h.2.2.2.1 hc)
  | false =>
    cases hb : L c1 with
    | true => exact h2 _ (h.2.2.1 hb hc)
    | false =>
      cases ha : L c0 with
      | true => exact h1 _ (h.2.1 ha hb)
      | false => exact h0 (h.1 ha)
end
end Go.Proofs.YtmnndkhdekpecaaGreatDoor.Ord
namespace Go.Proofs.YtmnndkhdekpecaaGreatDoor.Chu
open Go.ChangeShapes Go.WideShapes Go.ChangeAt Go.RowKit
open Par (hidden Bytes Row Prm Prms cell_lt Cap cells_new cutA thrown form_of)
set_option linter.unusedVariables false
set_option linter.unusedSimpArgs false
attribute [local go_sem ↓] execOp_ld execOp_bx execOp_st

/-- a row of bytes made behind a world, and another one beside it -/
def Bd2 (w0 w : World) (v : Value) (xs : List Int) (u : Value) (ys : List Int) : Prop :=
  Bd w0 w v xs ∧ w.ownsRow w0.heap.size 5 1 u ys.length (Par.cs ys) ∧ (u.ownBlock = none ∨ u.ownBlock ≠ v.ownBlock)
theorem Bd2.step {w0 w w1 w' : World} {v v' u : Value} {xs xs' ys : List Int} (h : Bd2 w0 w v xs u ys) (h1 : w1.ownsRow w0.heap.size 5 1 u ys.length (Par.cs ys)) (hg : w1.grownBy w' v.ownBlock)
    (hw : v'.ownBlock = v.ownBlock ∨ v'.ownBlock = some w1.heap.size) (hB : Bd w0 w' v' xs') : Bd2 w0 w' v' xs' u ys := by
  refine ⟨hB, h1.kept hg h.2.2, ?_⟩
  rcases hw with e | e
  · rw [e]; exact h.2.2
  · cases hu : u.ownBlock with
    | none => exact .inl rfl
    | some k =>
      right
      rw [e]
      have := (h1.lt k hu).2
      intro hh
      cases hh
      omega
theorem Bd2.eqn {w0 w : World} {v u : Value} {xs xs' ys : List Int} (h : Bd2 w0 w v xs u ys) (e : xs = xs') : Bd2 w0 w v xs' u ys := by rw [← e]; exact h
theorem Bd2.drew {w0 w : World} {v u : Value} {xs ys : List Int} (h : Bd2 w0 w v xs u ys) : Bd2 w0 w.drew v xs u ys := ⟨⟨h.1.1, Par.below_drewN h.1.2 1⟩, h.2.1, h.2.2⟩
theorem Bd.two {w0 w : World} {v : Value} {xs : List Int} (h : Bd w0 w v xs) : Bd2 w0 w v xs (.slice none 0 0) [] := ⟨h, World.ownsRow_nil _ _ _ _, .inl rfl⟩
/-- numbers that were laid into a new row are put at its end -/
theorem run_apN {w0 w : World} {v u : Value} {xs ys zs : List Int} (h : Bd2 w0 w v xs u ys) (hz : 0 < zs.length) (hx : xs.length + zs.length ≤ 140737488355328) (ty : TypeId) :
    ∃ v' w', (Builtin.append_ #[27, 27] ty #[v, .slice (some ⟨w.heap.size, 0, none⟩) zs.length zs.length]).run Tryz.prog (w.alloc (.cells (Par.cs zs).toArray 5)) = .ok v' w' ∧ Bd2 w0 w' v' (xs ++ zs) u ys := by
  obtain ⟨i0, hi, hz0, hz1, hz2⟩ := info_parts Par.info5
  obtain ⟨a, cap, rfl⟩ := h.1.form
  have hs := h.1.2.size
  have hc : ∀ j u, (Par.cs zs)[j]? = some u → (w.alloc (.cells (Par.cs zs).toArray 5)).cell? ((⟨w.heap.size, 0, none⟩ : Addr).add j) = some u := by
    have := cells_new w (Par.cs zs).toArray 5
    simpa using this
  have hl : (Par.cs zs).length = zs.length * 1 := by rw [Par.cs_len, Nat.mul_one]
  obtain ⟨v', w', hr, h2, h3, _⟩ := run_append_own (P := Tryz.prog) (w.alloc (.cells (Par.cs zs).toArray 5)) w0.heap.size 27 ty 5 i0 (.int .u8 0) 1 1 Tryz.underlying27 hi hz0 hz1 hz2 rfl (by decide) _ _ _ (h.1.1.alloc _) ⟨w.heap.size, 0, none⟩ zs.length zs.length (Par.cs zs) hl hc (Par.cs_one _) (by unfold maxLen; omega) (by omega) (by rw [World.size_alloc]; omega)
  have h5 := append_where (c := zs.length) (ty := ty) Tryz.underlying27 hi hz0 (by rw [hz1]; exact h.1.1.alloc (.cells (Par.cs zs).toArray 5)) (by rw [hz1]; exact hl) hc (Par.cs_one _) hz (by unfold maxLen; omega) (by rw [hz2]; omega) hr
  refine ⟨v', w', hr, h.step (h.2.1.alloc _) h3 h5 ⟨?_, (h.1.2.alloc hs _).grown h3 (by rw [World.size_alloc]; omega) (fun j hj => (h.1.1.lt j hj).1)⟩⟩
  rw [List.length_append, Par.cs_append]
  exact h2
set_option maxRecDepth 20000 in
theorem rPut2b (w0 w : World) (v u : Value) (xs ys : List Int) (h : Bd2 w0 w v xs u ys) (hx : xs.length ≤ 1000000) (x : Int) (h0 : 0 ≤ x) (h1 : x < 65536) :
    Calls Tryz.prog 54 #[v, .int .u32 x, .int .i64 2] w fun e w' => ∃ v', e = .returned v' ∧ Bd2 w0 w' v' (xs ++ twos [x]) u ys := by
  have HH := hidden h
  clear h
  go_enter Tryz.func54, Tryz.ntmps54
  go_wp2_with fail
  go_loopw [0, 7] (fun v i wr => ∃ j : Nat, j ≤ 2 ∧ i = .int .i64 (1 - (j : Int)) ∧ Bd2 w0 wr v (xs ++ (twos [x]).take j) u ys) (fun _ i _ => (intOf i + 1).toNat)
  case atStart => exact ⟨0, by omega, rfl, by simpa using HH.out⟩
  case round =>
    obtain ⟨j, hj, rfl, hb⟩ := hrel
    obtain ⟨va, vc, rfl⟩ := hb.1.form
    have hlen : (xs ++ (twos [x]).take j).length = xs.length + j := by rw [List.length_append, List.length_take, twos_len]; simp; omega
    have hs := hb.1.2.size
    generalize hY : xs ++ (twos [x]).take j = Y at *
    generalize hm : Y.length = m at *
    have HY := hidden hY
    have HM := hidden hm
    have HB := hidden hb
    have hml : m ≤ 1000004 := by omega
    clear hb hY hm hlen
    have hw : ∀ z : Int, IntKind.u8.wrap z = z % 256 := fun _ => rfl
    rcases Nat.lt_or_ge j 2 with hlt | hge
    · obtain rfl | rfl : j = 0 ∨ j = 1 := by omega
      · have hyx : x / 256 % 256 = x / 256 % 256 := by omega
        have HS := hidden (show (twos [x]).take 1 = (twos [x]).take 0 ++ [x / 256 % 256] by simp [twos]; try omega)
        obtain ⟨v', w2, hr, hB⟩ := run_apN (zs := [x / 256 % 256]) HB.out (by simp) (by rw [HM.out]; simp; omega) 27
        have hr' : (Builtin.append_ #[27, 27] 27 #[.slice va m vc, .slice (some ⟨wr.heap.size, 0, none⟩) 1 1]).run Tryz.prog (wr.alloc (.cells #[.int .u8 (x / 256 % 256)] 5)) = .ok v' w2 := hr
        have HB2 := hidden hB
        clear hB hr
        go_wp2_with (at_builtin; refine Ord.wpList_val rfl rfl (o_apB _ _ rfl rfl rfl hr') ?_)
        clear hr'
        go_wp2
        go_roundw
        case rel => exact ⟨1, by omega, by rfl, HB2.out.eqn (by rw [← HY.out, HS.out, List.append_assoc])⟩
        case measure => simp [intOf]
      · have hyx : x % 256 = x % 256 := by omega
        have HS := hidden (show (twos [x]).take 2 = (twos [x]).take 1 ++ [x % 256] by simp [twos]; try omega)
        obtain ⟨v', w2, hr, hB⟩ := run_apN (zs := [x % 256]) HB.out (by simp) (by rw [HM.out]; simp; omega) 27
        have hr' : (Builtin.append_ #[27, 27] 27 #[.slice va m vc, .slice (some ⟨wr.heap.size, 0, none⟩) 1 1]).run Tryz.prog (wr.alloc (.cells #[.int .u8 (x % 256)] 5)) = .ok v' w2 := hr
        have HB2 := hidden hB
        clear hB hr
        go_wp2_with (at_builtin; refine Ord.wpList_val rfl rfl (o_apB _ _ rfl rfl rfl hr') ?_)
        clear hr'
        go_wp2
        go_roundw
        case rel => exact ⟨2, by omega, by rfl, HB2.out.eqn (by rw [← HY.out, HS.out, List.append_assoc])⟩
        case measure => simp [intOf]
    · obtain rfl : 2 = j := by omega
      have HF := hidden (show (twos [x]).take 2 = twos [x] from List.take_of_length_le (by rw [twos_len]; simp))
      go_wp2
      go_ret
      exact ⟨_, rfl, HB.out.eqn (by rw [← HY.out, HF.out])⟩
section
variable {a : Act} {o : Oper} {w : World}
theorem o_ixC {b off len cap k : Nat} (x y : Operand) (hx : a.eval x = .slice (some ⟨b, off, none⟩) len cap) (hy : a.eval y = .int .i64 (k : Int)) (hk : k < len) (ho : o.op = .indexAddr 24 x y) : (execOp a.eval o).run Tryz.prog w = .ok (.value (.pointer (some ⟨b, off + k * 15, none⟩))) w := by
  have i1 : (k : Int) < (len : Int) := by omega
  unfold execOp
  rw [ho]
  simp only [hx, hy]
  go_simp
theorem o_f0 {b off : Nat} (x : Operand) (h0 : a.eval x = .pointer (some ⟨b, off, none⟩)) (ho : o.op = .fieldAddr 59 x 0) : (execOp a.eval o).run Tryz.prog w = .ok (.value (.pointer (some ⟨b, off, none⟩))) w := by
  unfold execOp
  rw [ho]
  simp only [h0]
  go_simp
theorem o_f1 {b off : Nat} (x : Operand) (h0 : a.eval x = .pointer (some ⟨b, off, none⟩)) (ho : o.op = .fieldAddr 59 x 1) : (execOp a.eval o).run Tryz.prog w = .ok (.value (.pointer (some ⟨b, off + 1, none⟩))) w := by
  unfold execOp
  rw [ho]
  simp only [h0]
  go_simp
theorem o_bs2 {s t : Int} (x y : Operand) (h0 : a.eval x = .int .u8 s) (h1 : a.eval y = .int .u8 t) (ho : o.op = .buildSlice 27 2 #[(0, x), (1, y)]) : (execOp a.eval o).run Tryz.prog w = .ok (.value (.slice (some ⟨w.heap.size, 0, none⟩) 2 2)) (w.alloc (.cells #[.int .u8 s, .int .u8 t] 5)) := by
  unfold execOp
  rw [ho]
  simp only [List.map_toArray, List.map_cons, List.map_nil, h0, h1]
  go_simp
theorem o_a4 {n : Nat} (x : Operand) (hx : a.eval x = .int .i64 (n : Int)) (hn : n ≤ 100000) (ho : o.op = .binOp .add 3 x (.const (.int .i64 4)) 3) : (execOp a.eval o).run Tryz.prog w = .ok (.value (.int .i64 ((n + 4 : Nat) : Int))) w := by
  have e : IntKind.i64.wrap ((n : Int) + 4) = ((n + 4 : Nat) : Int) := by
    rw [wrapS _ (by omega) (by omega)]
    omega
  have := o_add (a := a) (o := o) (w := w) x (.const (.int .i64 4)) ho hx rfl
  rw [e] at this
  exact this
end
theorem Cks.cell {base : Nat} {w : World} {n k : Nat} {l : List Ck} {b off : Nat} (h : Cks base w (some ⟨b, off, none⟩) n l) {c : Ck} (hk : l[k]? = some c) (j : Nat) (u : Value) (hu : (cc c).toList[j]? = some u) : w.cell? ⟨b, off + k * 15 + j, none⟩ = some u := by
  obtain ⟨h1, h2, h3, h4⟩ := h
  rcases h4 with h0 | ⟨b', off', e, hbb, hc⟩
  · have := ccs_get l k c hk j u hu
    rw [h0] at this
    simp at this
  · cases e
    rw [Nat.add_assoc]
    exact hc _ _ (ccs_get l k c hk j u hu)
theorem tot_mod (vs : List Ch) : tot vs % 4 = 0 := by
  induction vs with
  | nil => rfl
  | cons x l ih =>
    have e : tot (x :: l) = clen x + tot l := by unfold tot; simp
    rw [e]
    unfold clen Par.fill4
    omega
theorem pad4 (T v : Nat) (h : T % 4 = 0) : Par.fill4 (T + (4 + v)) - (T + (4 + v)) = Par.fill4 (4 + v) - (4 + v) := by unfold Par.fill4; omega
end Go.Proofs.YtmnndkhdekpecaaGreatDoor.Chu
namespace Go.Proofs.YtmnndkhdekpecaaGreatDoor.Chu
open Go.ChangeShapes Go.WideShapes Go.ChangeAt Go.RowKit
open Par (hidden Bytes Row Prm Prms cell_lt Cap cells_new cutA thrown form_of)
set_option linter.unusedVariables false
set_option linter.unusedSimpArgs false
attribute [local go_sem ↓] execOp_ld execOp_bx execOp_st
attribute [local go_sem] run_box

theorem rCsize (base : Nat) (c : Ck) (w : World) (hc : Chk base w c) (hbm : c.bl ≤ 140737488351232) : Calls Tryz.prog 45 #[cv c] w fun e w' => e = .returned (.int .i64 (csize (val c) : Nat)) ∧ Below w.heap.size w w' := by
  have hl := (Bx.new w c).ld
  have hb := below_box w c
  have hv := vlen_le base c w hc
  have CK := hidden (rCheck base c _ (hc.later hb) hbm)
  have H1 := hidden (Bx.new w c)
  have HC := hidden (hc.later hb)
  have HB := hidden hb
  clear hb hc
  go_enter Tryz.func45, Tryz.ntmps45
  go_wp2_with fail
  refine Calls.mono CK.out ?_
  rintro e w1 ⟨rfl, b1⟩
  have HB1 := hidden (HB.out.trans (b1.mono HB.out.size))
  have l1 := (H1.out.later b1).ld
  have HC1 := hidden (HC.out.later b1)
  clear CK b1 hl
  by_cases hz : chk (val c) = 0
  · obtain ⟨hP, hL, hpc, hvl⟩ := chk_ok hz
    have hgl : (val c).gs.length = c.gl := HC.out.2.1.1
    have hnl : (val c).ns.length = c.nl := HC.out.2.2.1.1
    have hdl : (val c).ds.length = c.dl := HC.out.2.2.2.1.1
    have VA := hidden ((rValue base c w1 HC1.out hP.1 hpc (by omega) (by omega) (by omega) hbm).mono fun e w' h => h.len hpc)
    have HE := hidden (show csize (val c) = (vlen (val c) + 7) / 4 * 4 by unfold csize; rw [if_pos hz]; unfold clen Par.fill4; omega)
    have hd : ((vlen (val c) : Int) + 7).tdiv 4 = (((vlen (val c) + 7) / 4 : Nat) : Int) := by
      rw [Int.tdiv_eq_ediv_of_nonneg (by omega)]; omega
    clear hP hL hpc hgl hnl hdl
    go_wp2_with fail
    refine Calls.mono VA.out ?_
    rintro e w2 ⟨va, vc, rfl, b2⟩
    have HB2 := hidden (HB1.out.trans (b2.mono HB1.out.size))
    clear b2 VA
    go_wp2
    go_ret
    exact fin_i (by rw [HE.out]; omega) HB2.out
  · have HE := hidden (show csize (val c) = 0 by unfold csize; rw [if_neg hz])
    have hne := bne_t hz
    go_wp2
    go_ret
    exact fin_i (by rw [HE.out]; rfl) HB1.out
theorem own_down {w : World} {base base' e s n : Nat} {v : Value} {xs : List Value} (h : w.ownsRow base e s v n xs) (hb : base' ≤ base) : w.ownsRow base' e s v n xs := by
  obtain ⟨h1, h2⟩ := h
  refine ⟨h1, ?_⟩
  rcases h2 with h2 | ⟨g, cap, cur, h3, h4, h5⟩
  · exact .inl h2
  · exact .inr ⟨g, cap, cur, h3, Nat.le_trans hb h4, h5⟩
set_option maxRecDepth 20000 in
set_option maxHeartbeats 4000000 in
theorem rEncode (base : Nat) (w : World) (a : Option Addr) (n cp : Nat) (l : List Ck) (hl : Cks base w a n l) (hbm : ∀ c ∈ l, c.bl ≤ 140737488351232) :
    Calls Tryz.prog 30 #[.slice a n cp] w fun e w' => ∃ v er, e = .returned (.tuple #[v, .int .i64 er]) ∧ EncR (l.map val) er ∧ (er ≠ 0 → v = .slice none 0 0) ∧
      (er = 0 → w'.ownsRow w.heap.size 5 1 v (encA (l.map val)).length (Par.cs (encA (l.map val)))) ∧ Below w.heap.size w w' := by
  obtain ⟨i0, hi, hz0, hz1, hz2⟩ := info_parts Par.info5
  have HL := hidden hl
  have HBM := hidden hbm
  have hnl := hl.2.1
  have HLL := hidden (show (l.map val).length = n by rw [List.length_map]; exact hl.1)
  clear hl hbm
  go_enter Tryz.func30, Tryz.ntmps30
  go_wp2_with fail
  go_loopw [5] (fun i wr => ∃ k : Nat, k ≤ n ∧ i = .int .i64 k ∧ (∀ u ∈ (l.map val).take k, chk u = 0) ∧ Below w.heap.size w wr) (fun i _ => n - (intOf i).toNat)
  case atStart => exact ⟨0, Nat.zero_le _, rfl, (fun u hu => by simp at hu), Below.refl _ _⟩
  case round =>
    obtain ⟨k, hk, rfl, hall, hbl⟩ := hrel
    rcases Nat.lt_or_ge k n with hlt | hge
    · obtain ⟨b, off, c, rfl, hck, hld, hchk⟩ := (HL.out.later hbl).get hlt
      have HA := hidden hall
      have HV := hidden (map_at hck)
      have HB := hidden hbl
      have CK := hidden (rCheck base c wr hchk (HBM.out c (List.mem_of_getElem? hck)))
      clear hck hall hbl hchk
      go_wp2_with fail
      refine Calls.mono CK.out ?_
      rintro e w1 ⟨rfl, b1⟩
      have HB1 := hidden (HB.out.trans (b1.mono HB.out.size))
      clear b1 CK HB hld
      by_cases hz : chk (val c) = 0
      · rw [hz]
        go_wp2
        go_roundw
        case rel => exact ⟨k + 1, by omega, by go_num, all_step HA.out HV.out hz, HB1.out⟩
        case measure => simp [intOf]; omega
      · have hne := bne_t hz
        go_wp2
        go_ret2
        exact ⟨_, _, rfl, .inl ⟨k, _, HV.out, HA.out, hz, rfl⟩, (fun _ => rfl), (fun h => absurd h hz), HB1.out⟩
    · obtain rfl : n = k := by omega
      rw [List.take_of_length_le (by rw [HLL.out]; omega)] at hall
      have HA := hidden hall
      have HW := hidden hbl
      clear hall hbl hge hk
      obtain ⟨w1, rfl⟩ : ∃ x, x = wr := ⟨_, rfl⟩
      go_wp2_with fail
      go_loopw [4, 7] (fun v i wr => ∃ k : Nat, k ≤ n ∧ i = .int .i64 k ∧ Bd w1 wr v (encA ((l.map val).take k)) ∧ tot ((l.map val).take k) ≤ 65536) (fun _ i _ => n - (intOf i).toNat)
      case atStart => exact ⟨0, Nat.zero_le _, rfl, Bd.nil w1, Nat.zero_le _⟩
      case round =>
        obtain ⟨k, hk, rfl, hb, hT⟩ := hrel
        rcases Nat.lt_or_ge k n with hlt | hge
        rotate_left
        · obtain rfl : n = k := by omega
          rw [List.take_of_length_le (by rw [HLL.out]; omega)] at hb hT
          have HB := hidden hb
          have HT := hidden hT
          obtain ⟨va, vc, rfl⟩ := hb.form
          clear hb hT
          generalize (encA (l.map val)).length = m at *
          go_wp2
          go_ret2
          exact ⟨_, _, rfl, .inr (.inr ⟨HA.out, HT.out, rfl⟩), (fun h => absurd rfl h), (fun _ => own_down HB.out.1 HW.out.size), HW.out.trans (HB.out.2.mono HW.out.size)⟩
        obtain ⟨b, off, c, rfl, hck, hld, hchk⟩ := ((HL.out.later HW.out).later hb.2).get hlt
        have hvk := map_at hck
        have hc0 := HA.out _ (List.mem_of_getElem? hvk)
        obtain ⟨hP, hLE, hpc, hvl⟩ := chk_ok hc0
        have hgl : (val c).gs.length = c.gl := hchk.2.1.1
        have hnl : (val c).ns.length = c.nl := hchk.2.2.1.1
        have hdl : (val c).ds.length = c.dl := hchk.2.2.2.1.1
        have VA := hidden (rValue base c wr hchk hP.1 hpc (by omega) (by omega) (by omega) (HBM.out c (List.mem_of_getElem? hck)))
        have HLE : (vby (val c)).length = vlen (val c) := vby_len _ hpc
        have HBY := hidden (vby_bytes hchk.vok hc0)
        have HC0 := hidden (show ∀ y, Below w1.heap.size w1 y → y.cell? ⟨b, off + k * 15, none⟩ = some (.int .u8 c.kind) from fun y hy => ((HL.out.later HW.out).later hy).cell hck 0 _ rfl)
        have HC1 := hidden (show ∀ y, Below w1.heap.size w1 y → y.cell? ⟨b, off + k * 15 + 1, none⟩ = some (.int .u8 c.flags) from fun y hy => ((HL.out.later HW.out).later hy).cell hck 1 _ rfl)
        have HTS := hidden (tot_snoc hvk)
        have HES := hidden (encA_snoc hvk)
        have hTM := tot_mod ((l.map val).take k)
        have HTT := hidden (tot_take (l.map val) (k + 1))
        have HLX : (encA ((l.map val).take k)).length = tot ((l.map val).take k) := encA_len (fun u hu => HA.out u (List.mem_of_mem_take hu))
        have HCL : clen (val c) = Par.fill4 (4 + vlen (val c)) := rfl
        have HEC := hidden (show encC (val c) = [c.kind, c.flags] ++ twos [4 + (vlen (val c) : Int)] ++ vby (val c) ++ List.replicate (clen (val c) - (4 + vlen (val c))) 0 from rfl)
        have HB := hidden hb
        clear hchk hb hgl hnl hdl hP hLE hpc hck hvk hc0
        generalize hX : encA ((l.map val).take k) = X at *
        generalize tot ((l.map val).take k) = t at *
        generalize hY : vby (val c) = Y at *
        generalize hvv : vlen (val c) = vl at *
        clear hX hY hvv
        obtain ⟨va, vc, rfl⟩ := HB.out.form
        generalize hm : X.length = m at *
        obtain rfl : m = t := HLX
        have HLX := hidden hm
        clear hm
        go_wp2_with fail
        refine Calls.mono VA.out ?_
        rintro e W ⟨wv, u, rfl, hBu, hbu⟩
        obtain ⟨ua, uc, rfl⟩ := hBu.form
        have h2 : Bd2 w1 W (.slice va m vc) X (.slice ua Y.length uc) Y := by
          have hb1 := hbu.trans (hBu.2.mono hbu.size)
          refine ⟨HB.out.later hb1, own_down hBu.1 (Nat.le_trans HB.out.2.size hbu.size), ?_⟩
          cases hu : (Value.slice ua Y.length uc).ownBlock with
          | none => exact .inl rfl
          | some g =>
            right
            intro hh
            have g1 := (hBu.1.lt g hu).1
            have g2 := (HB.out.1.lt g hh.symm).2
            have := hbu.size
            omega
        rw [HLE] at h2 ⊢
        obtain ⟨v3, w3, hr3, hB3⟩ := run_apN (zs := [c.kind, c.flags]) h2.drew (by simp) (by rw [HLX.out]; simp; omega) 27
        have HRA := hidden (show (Builtin.append_ #[27, 27] 27 #[.slice va m vc, .slice (some ⟨W.drew.heap.size, 0, none⟩) 2 2]).run Tryz.prog (W.drew.alloc (.cells #[.int .u8 c.kind, .int .u8 c.flags] 5)) = .ok v3 w3 from hr3)
        have HBA := hidden hB3
        have HK0 := hidden h2.drew.1.2
        have HK1 := hidden (h2.drew.1.2.alloc h2.drew.1.2.size (.cells #[.int .u8 c.kind, .int .u8 c.flags] 5))
        clear VA hBu hbu h2 hr3 hB3
        go_wp2_with fail
        refine Ord.wp_region_ex (X := Value × Value × Value) (by kernel_rfl) 66 (fun x => [(some 34, .slice va m vc), (some 35, .slice (some ⟨b, off, none⟩) n cp), (some 36, .int .i64 (k : Int)), (some 37, .pointer (some ⟨b, off + k * 15, none⟩)), (some 38, .pointer (some ⟨b, off + k * 15, none⟩)), (some 39, .int .u8 c.kind), (some 40, .slice (some ⟨b, off, none⟩) n cp), (some 41, .int .i64 (k : Int)), (some 42, .pointer (some ⟨b, off + k * 15, none⟩)), (some 43, .pointer (some ⟨b, off + k * 15 + 1, none⟩)), (some 44, .int .u8 c.flags), (some 45, x.1), (some 46, x.2.1), (some 47, .slice ua vl uc), (some 48, .int .i64 (vl : Int)), (some 49, .int .i64 ((vl + 4 : Nat) : Int)), (some 50, .int .u32 ((vl + 4 : Nat) : Int)), (some 51, x.2.2), (some 4, x.2.2)]) [some 34, some 35, some 36, some 37, some 38, some 39, some 40, some 41, some 42, some 43, some 44, some 45, some 46, some 47, some 48, some 49, some 50, some 51, some 4] rfl (by kernel_rfl) (by rfl) (fun _ => rfl) (by kernel_rfl) (Ord.St3 11 12 17 (fun y => y = W.drew) (fun v y => v = .slice (some ⟨W.drew.heap.size, 0, none⟩) 2 2 ∧ y = (W.drew.alloc (.cells #[.int .u8 c.kind, .int .u8 c.flags] 5))) (fun v y => Bd2 w1 y v (X ++ [c.kind, c.flags]) (.slice ua vl uc) Y) (fun v y => Bd2 w1 y v (X ++ [c.kind, c.flags] ++ twos [((vl + 4 : Nat) : Int)]) (.slice ua vl uc) Y)) (fun _ _ _ _ hL h => h.ext (n := 19) (by decide) (by decide) (by decide) hL) ?_ ?_ (undef, undef, undef) ?_
        case refine_1 =>
          intro x L i o ac w' ho hi hcl hdep hF hW
          have hK := hW.all (fun h => by rw [h]; exact HK0.out) (fun _ h => by rw [h.2]; exact HK1.out) (fun _ h => h.1.2) (fun _ h => h.1.2)
          have f1' : ac.tmps.size = 66 := hF.1
          match i, ho, hi, hdep with
          | 0, ho, hi, hdep =>
            cases ho
            have hy : L 18 = false := by
              cases hb : L 18 with
              | false => rfl
              | true =>
                have h17 := hcl 18 _ rfl hb ⟨17, .data⟩ (by simp) rfl
                have h12 := hcl 17 _ rfl h17 ⟨12, .data⟩ (by simp) rfl
                have h0 := hcl 12 _ rfl h12 ⟨0, .data⟩ (by simp) rfl
                rw [hi] at h0; cases h0
            have da0 : ac.eval (.tmp 4) = .slice va m vc := hF.yet 4 18 (by rfl) hy
            exact Ord.ex_value x rfl rfl (o_mv _ rfl da0) rfl (hW.keep (by decide) (by decide) (by decide))
          | 1, ho, hi, hdep =>
            cases ho
            have da0 : ac.eval (.tmp 0) = .slice (some ⟨b, off, none⟩) n cp := hF.old 0 rfl
            exact Ord.ex_value x rfl rfl (o_mv _ rfl da0) rfl (hW.keep (by decide) (by decide) (by decide))
          | 2, ho, hi, hdep =>
            cases ho
            have da0 : ac.eval (.tmp 7) = .int .i64 (k : Int) := hF.old 7 rfl
            exact Ord.ex_value x rfl rfl (o_mv _ rfl da0) rfl (hW.keep (by decide) (by decide) (by decide))
          | 3, ho, hi, hdep =>
            cases ho
            have da0 : ac.eval (.tmp 35) = .slice (some ⟨b, off, none⟩) n cp := hF.2.2.2 1 35 _ rfl (hdep ⟨1, .data⟩ (by simp) rfl)
            have da1 : ac.eval (.tmp 36) = .int .i64 (k : Int) := hF.2.2.2 2 36 _ rfl (hdep ⟨2, .data⟩ (by simp) rfl)
            exact Ord.ex_value x rfl rfl (o_ixC _ _ da0 da1 hlt rfl) rfl (hW.keep (by decide) (by decide) (by decide))
          | 4, ho, hi, hdep =>
            cases ho
            have da0 : ac.eval (.tmp 37) = .pointer (some ⟨b, off + k * 15, none⟩) := hF.2.2.2 3 37 _ rfl (hdep ⟨3, .data⟩ (by simp) rfl)
            exact Ord.ex_value x rfl rfl (o_f0 _ da0 rfl) rfl (hW.keep (by decide) (by decide) (by decide))
          | 5, ho, hi, hdep =>
            cases ho
            have da0 : ac.eval (.tmp 38) = .pointer (some ⟨b, off + k * 15, none⟩) := hF.2.2.2 4 38 _ rfl (hdep ⟨4, .data⟩ (by simp) rfl)
            exact Ord.ex_value x rfl rfl (e_ld _ da0 rfl (ldK _ _ _ (HC0.out _ hK))) rfl (hW.keep (by decide) (by decide) (by decide))
          | 6, ho, hi, hdep =>
            cases ho
            have da0 : ac.eval (.tmp 0) = .slice (some ⟨b, off, none⟩) n cp := hF.old 0 rfl
            exact Ord.ex_value x rfl rfl (o_mv _ rfl da0) rfl (hW.keep (by decide) (by decide) (by decide))
          | 7, ho, hi, hdep =>
            cases ho
            have da0 : ac.eval (.tmp 7) = .int .i64 (k : Int) := hF.old 7 rfl
            exact Ord.ex_value x rfl rfl (o_mv _ rfl da0) rfl (hW.keep (by decide) (by decide) (by decide))
          | 8, ho, hi, hdep =>
            cases ho
            have da0 : ac.eval (.tmp 40) = .slice (some ⟨b, off, none⟩) n cp := hF.2.2.2 6 40 _ rfl (hdep ⟨6, .data⟩ (by simp) rfl)
            have da1 : ac.eval (.tmp 41) = .int .i64 (k : Int) := hF.2.2.2 7 41 _ rfl (hdep ⟨7, .data⟩ (by simp) rfl)
            exact Ord.ex_value x rfl rfl (o_ixC _ _ da0 da1 hlt rfl) rfl (hW.keep (by decide) (by decide) (by decide))
          | 9, ho, hi, hdep =>
            cases ho
            have da0 : ac.eval (.tmp 42) = .pointer (some ⟨b, off + k * 15, none⟩) := hF.2.2.2 8 42 _ rfl (hdep ⟨8, .data⟩ (by simp) rfl)
            exact Ord.ex_value x rfl rfl (o_f1 _ da0 rfl) rfl (hW.keep (by decide) (by decide) (by decide))
          | 10, ho, hi, hdep =>
            cases ho
            have da0 : ac.eval (.tmp 43) = .pointer (some ⟨b, off + k * 15 + 1, none⟩) := hF.2.2.2 9 43 _ rfl (hdep ⟨9, .data⟩ (by simp) rfl)
            exact Ord.ex_value x rfl rfl (e_ld _ da0 rfl (ld8 _ _ _ (HC1.out _ hK))) rfl (hW.keep (by decide) (by decide) (by decide))
          | 11, ho, hi, hdep =>
            cases ho
            have da0 : ac.eval (.tmp 39) = .int .u8 c.kind := hF.2.2.2 5 39 _ rfl (hdep ⟨5, .data⟩ (by simp) rfl)
            have da1 : ac.eval (.tmp 44) = .int .u8 c.flags := hF.2.2.2 10 44 _ rfl (hdep ⟨10, .data⟩ (by simp) rfl)
            cases hW.1 hi
            exact Ord.ex_letter x (_, x.2) rfl rfl (o_bs2 _ _ da0 da1 rfl) rfl (fun j hj => match j, hj with | 0, _ => rfl | 1, _ => rfl | 2, _ => rfl | 3, _ => rfl | 4, _ => rfl | 5, _ => rfl | 6, _ => rfl | 7, _ => rfl | 8, _ => rfl | 9, _ => rfl | 10, _ => rfl | 11, hj => absurd hj (by rw [hi]; decide) | 12, _ => rfl | 13, _ => rfl | 14, _ => rfl | 15, _ => rfl | 16, _ => rfl | 17, _ => rfl | 18, _ => rfl | _ + 19, _ => rfl) (hW.one (by decide) (by decide) hi (⟨rfl, rfl⟩))
          | 12, ho, hi, hdep =>
            cases ho
            have da0 : ac.eval (.tmp 34) = .slice va m vc := hF.2.2.2 0 34 _ rfl (hdep ⟨0, .data⟩ (by simp) rfl)
            have da1 : ac.eval (.tmp 45) = x.1 := hF.2.2.2 11 45 _ rfl (hdep ⟨11, .data⟩ (by simp) rfl)
            obtain ⟨hx1, hw1⟩ := hW.2.1 (hdep ⟨11, .data⟩ (by simp) rfl) hi
            cases hw1
            rw [hx1] at da1
            exact Ord.ex_letter x (x.1, _, x.2.2) rfl rfl (o_apB _ _ da0 da1 rfl HRA.out) rfl (fun j hj => match j, hj with | 0, _ => rfl | 1, _ => rfl | 2, _ => rfl | 3, _ => rfl | 4, _ => rfl | 5, _ => rfl | 6, _ => rfl | 7, _ => rfl | 8, _ => rfl | 9, _ => rfl | 10, _ => rfl | 11, _ => rfl | 12, hj => absurd hj (by rw [hi]; decide) | 13, _ => rfl | 14, _ => rfl | 15, _ => rfl | 16, _ => rfl | 17, _ => rfl | 18, _ => rfl | _ + 19, _ => rfl) (hW.two (by decide) (hdep ⟨11, .data⟩ (by simp) rfl) hi (HBA.out))
          | 13, ho, hi, hdep =>
            cases ho
            have da0 : ac.eval (.tmp 8) = .slice ua vl uc := hF.old 8 rfl
            exact Ord.ex_value x rfl rfl (o_mv _ rfl da0) rfl (hW.keep (by decide) (by decide) (by decide))
          | 14, ho, hi, hdep =>
            cases ho
            have da0 : ac.eval (.tmp 47) = .slice ua vl uc := hF.2.2.2 13 47 _ rfl (hdep ⟨13, .data⟩ (by simp) rfl)
            exact Ord.ex_value x rfl rfl (o_len (lenB _ _ _ _) _ da0 rfl) rfl (hW.keep (by decide) (by decide) (by decide))
          | 15, ho, hi, hdep =>
            cases ho
            have da0 : ac.eval (.tmp 48) = .int .i64 (vl : Int) := hF.2.2.2 14 48 _ rfl (hdep ⟨14, .data⟩ (by simp) rfl)
            exact Ord.ex_value x rfl rfl (o_a4 _ da0 (by omega) rfl) rfl (hW.keep (by decide) (by decide) (by decide))
          | 16, ho, hi, hdep =>
            cases ho
            have da0 : ac.eval (.tmp 49) = .int .i64 ((vl + 4 : Nat) : Int) := hF.2.2.2 15 49 _ rfl (hdep ⟨15, .data⟩ (by simp) rfl)
            exact Ord.ex_value x rfl rfl (o_cl _ da0 (by omega) rfl) rfl (hW.keep (by decide) (by decide) (by decide))
          | 17, ho, hi, hdep =>
            cases ho
            have da0 : ac.eval (.tmp 46) = x.2.1 := hF.2.2.2 12 46 _ rfl (hdep ⟨12, .data⟩ (by simp) rfl)
            have da1 : ac.eval (.tmp 50) = .int .u32 ((vl + 4 : Nat) : Int) := hF.2.2.2 16 50 _ rfl (hdep ⟨16, .data⟩ (by simp) rfl)
            refine Ord.ex_call x (fun v => (x.1, x.2.1, v)) rfl rfl (o_put _ _ da0 da1 rfl) (fun _ => rfl) (fun v j hj => match j, hj with | 0, _ => rfl | 1, _ => rfl | 2, _ => rfl | 3, _ => rfl | 4, _ => rfl | 5, _ => rfl | 6, _ => rfl | 7, _ => rfl | 8, _ => rfl | 9, _ => rfl | 10, _ => rfl | 11, _ => rfl | 12, _ => rfl | 13, _ => rfl | 14, _ => rfl | 15, _ => rfl | 16, _ => rfl | 17, hj => absurd hj (by rw [hi]; decide) | 18, hj => absurd (hcl 18 _ rfl hj ⟨17, .data⟩ (by simp) rfl) (by rw [hi]; decide) | _ + 19, _ => rfl) (Calls.mono (rPut2b w1 w' _ _ _ _ (hW.2.2.1 (hdep ⟨12, .data⟩ (by simp) rfl) hi) (by rw [List.length_append, HLX.out]; simp; omega) ((vl + 4 : Nat) : Int) (by omega) (by omega)) ?_)
            rintro e w1 ⟨v', rfl, hB⟩
            exact ⟨_, rfl, hW.three (hdep ⟨12, .data⟩ (by simp) rfl) (hB)⟩
          | 18, ho, hi, hdep =>
            cases ho
            have da0 : ac.eval (.tmp 51) = x.2.2 := hF.2.2.2 17 51 _ rfl (hdep ⟨17, .data⟩ (by simp) rfl)
            exact Ord.ex_value x rfl rfl (o_as _ rfl da0) rfl (hW.keep (by decide) (by decide) (by decide))
        case refine_3 => exact ⟨fun _ => rfl, (fun e => Bool.noConfusion e), (fun e => Bool.noConfusion e), (fun e => Bool.noConfusion e), (fun e => Bool.noConfusion e), (fun e => Bool.noConfusion e)⟩
        case refine_2 =>
          intro x W4 hS
          obtain ⟨hB4, hU4, _⟩ := hS.2.2.2.1 rfl
          clear hS HRA HBA HK0 HK1
          obtain ⟨x1, x2, x3⟩ := x
          simp only at hB4 hU4
          rw [HLE] at hU4
          obtain ⟨ua', uc', hue, hrow, _, _, hnone⟩ := Par.row_own hU4 HBY.out (by omega)
          cases hue
          obtain ⟨v5, w5, hr5, hB5⟩ := run_apB hB4 ua vl uc hrow hnone (by simp [HLX.out, twos_len]; omega) 27
          obtain ⟨va4, vc4, rfl⟩ := hB4.form
          have hlen : (X ++ [c.kind, c.flags] ++ twos [((vl + 4 : Nat) : Int)] ++ Y).length = m + (4 + vl) := by simp [HLX.out, twos_len, HLE]; omega
          have hz4 : X ++ [c.kind, c.flags] ++ twos [((vl + 4 : Nat) : Int)] ++ Y ++ List.replicate (clen (val c) - (4 + vl)) 0 = X ++ encC (val c) := by
            rw [HEC.out, show ((vl + 4 : Nat) : Int) = 4 + (vl : Int) by omega]
            simp only [List.append_assoc]
          have HZ := hidden hz4
          have HLZ := hidden hlen
          have HB5 := hidden hB5
          have hr5' := hr5
          clear hlen hz4 hB5 hr5 hrow hU4 hB4 hnone
          generalize (X ++ [c.kind, c.flags] ++ twos [((vl + 4 : Nat) : Int)]).length = q at *
          simp only [Ord.puts, Ord.prs, List.filterMap_cons, List.filterMap_nil, Option.map_some, List.foldl_cons, List.foldl_nil]
          go_simp
          go_wp2_with (at_builtin; refine Ord.wpList_val rfl rfl (o_apB _ _ rfl rfl rfl hr5') ?_)
          clear hr5'
          generalize X ++ [c.kind, c.flags] ++ twos [((vl + 4 : Nat) : Int)] ++ Y = Z at *
          go_wp2_with fail
          go_loopw [4] (fun v wr => ∃ d : Nat, m + (4 + vl) + d ≤ Par.fill4 (m + (4 + vl)) ∧ Bd w1 wr v (Z ++ List.replicate d 0)) (fun v _ => Par.fill4 (m + (4 + vl)) - Par.lenW v)
          case atStart => exact ⟨0, by have := Par.fill4_le (m + (4 + vl)); omega, by simpa using HB5.out⟩
          case round =>
            obtain ⟨d, hd, hb⟩ := hrel
            have hl6 : (Z ++ List.replicate d 0).length = m + (4 + vl) + d := by rw [List.length_append, List.length_replicate, HLZ.out]
            obtain ⟨va6, vc6, rfl⟩ := hb.form
            have HB6 := hidden hb
            clear hb
            generalize (Z ++ List.replicate d 0).length = M at *
            have htm : (M : Int).tmod 4 = ((M % 4 : Nat) : Int) := by rw [Int.tmod_eq_emod_of_nonneg (by omega)]; omega
            by_cases hz : M % 4 = 0
            · have hpad : clen (val c) - (4 + vl) = d := by
                have h1 := Par.fill_end (m + (4 + vl)) d hd (by rw [← hl6]; exact hz)
                have h2 := pad4 m vl hTM
                rw [HCL]
                omega
              have hf := Par.fill4_le (4 + vl)
              rw [hpad] at HZ
              have hMC : M = m + clen (val c) := by rw [HCL] at hpad ⊢; omega
              have htz : (M : Int).tmod 4 = 0 := by rw [htm, hz]; rfl
              have hzi : (M : Int) % 4 = 0 := by omega
              clear htm
              by_cases hbig : 65536 < M
              · have i9 : (65536 : Int) < (M : Int) := by omega
                have HF := hidden (show 65536 < tot (l.map val) by have h1 := HTT.out; have h2 := HTS.out; omega)
                go_wp2
                go_ret2
                exact ⟨_, _, rfl, .inr (.inl ⟨HA.out, HF.out, rfl⟩), (fun _ => rfl), (fun h => by cases h), HW.out.trans (HB6.out.2.mono HW.out.size)⟩
              · have i9 : ¬ (65536 : Int) < (M : Int) := by omega
                have HF := hidden (show tot ((l.map val).take (k + 1)) ≤ 65536 by have h2 := HTS.out; omega)
                go_wp2
                go_roundw
                case rel => exact ⟨k + 1, by omega, by go_num, HB6.out.eqn (by rw [HES.out, HZ.out]), HF.out⟩
                case measure => simp [intOf]; omega
            · have hmore := Par.fill_more (m + (4 + vl)) d hd (by rw [← hl6]; exact hz)
              have hnz : ¬ (((M % 4 : Nat) : Int) = 0) := by omega
              have hfl : Par.fill4 (m + (4 + vl)) ≤ m + (4 + vl) + 3 := by unfold Par.fill4; omega
              obtain ⟨v7, w7, hr7, hB7⟩ := run_apN (zs := [0]) HB6.out.two (by simp) (by have := HLZ.out; simp only [List.length_append, List.length_replicate, List.length_cons, List.length_nil]; omega) 27
              have hr7' : (Builtin.append_ #[27, 27] 27 #[.slice va6 M vc6, .slice (some ⟨wr.heap.size, 0, none⟩) 1 1]).run Tryz.prog (wr.alloc (.cells #[.int .u8 0] 5)) = .ok v7 w7 := hr7
              have hb7 := hB7.1.eqn (show Z ++ List.replicate d 0 ++ [0] = Z ++ List.replicate (d + 1) 0 by rw [List.replicate_succ', List.append_assoc])
              obtain ⟨va7, vc7, rfl⟩ := hb7.form
              have hl7 : (Z ++ List.replicate (d + 1) 0).length = m + (4 + vl) + (d + 1) := by rw [List.length_append, List.length_replicate, HLZ.out]
              have HB7 := hidden hb7
              clear hB7 hr7 hb7
              generalize (Z ++ List.replicate (d + 1) 0).length = M7 at *
              have HL7 := hidden hl7
              clear hl7
              generalize ((M % 4 : Nat) : Int) = q4 at *
              go_wp2_with (at_builtin; refine Ord.wpList_val rfl rfl (o_apB _ _ rfl rfl rfl hr7') ?_)
              clear hr7'
              go_wp2
              go_roundw
              case rel => exact ⟨d + 1, hmore, HB7.out⟩
              case measure => have h7 := HL7.out; simp [Par.lenW]; omega
end Go.Proofs.YtmnndkhdekpecaaGreatDoor.Chu
