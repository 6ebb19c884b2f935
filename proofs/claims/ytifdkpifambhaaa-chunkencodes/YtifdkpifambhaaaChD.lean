/-
  What a chunk has beside the fields and flags of its kind.
  Conditions: the numbers lie within their kinds, the cells hold them.
-/
import Derived.Test.YtifdkpifambhaaaChC
import Derived.Laws.IdiomCopy
import Derived.Deep.MidRow
import Derived.Deep.CutRange
import Derived.Deep.DeepCutAuto
namespace Go.Proofs.Ytifdkpifambhaaa.Chu
open Go.ChangeShapes Go.WideShapes Go.ChangeAt Go.RowKit
open Par (hidden Bytes Row Prm Prms cell_lt)
set_option linter.unusedVariables false
attribute [local go_sem ↓] execOp_ld execOp_bx execOp_st
attribute [local go_sem] run_box cc_0 cc_1 cc_2 cc_3 cc_4 cc_5 cc_6 cc_7 cc_8 cc_9 cc_10 cc_11 cc_12 cc_13 cc_14

/-- the zero chunk of a kind -/
def zck (k : Int) : Ck := ⟨k, 0, 0, 0, 0, 0, 0, 0, 0, 0, none, 0, 0, [], none, 0, 0, [], none, 0, 0, [], none, 0, 0, [], none, 0, 0, []⟩
/-- a whole chunk is stored -/
def stoW (w : World) (B : Nat) (c : Ck) : World := w.setCells B 0 (cc c).toList
theorem sto_run {w : World} {B : Nat} {z : Ck} (h : Bx w B z) (c : Ck) : (sto (.pointer (some ⟨B, 0, none⟩)) (cv c)).run Try.prog w = .ok () (stoW w B c) := by
  unfold sto cv
  refine run_storeAt_mid w B 0 37 (cc c) (fun j hj => ⟨?_, h.fr _⟩) infoC (by simp [cc, Value.oneCell'])
  rw [size_cc] at hj
  rw [Nat.zero_add, bx_cell h (v := ((cc z)[j]?).getD undef) (by rw [Array.getElem?_eq_getElem (by rw [size_cc]; omega)]; rfl)]
  rfl
theorem stoW_bx {w : World} {B : Nat} {z : Ck} (h : Bx w B z) (c : Ck) : Bx (stoW w B c) B c := by
  exact (((((((((((((((h.s0 c.kind).s1 c.flags).s2 c.tsn).s3 c.stream).s4 c.ssn).s5 c.proto).s6 c.tag).s7 c.win).s8 c.out).s9 c.inn).s10 c.ga c.gl c.gc c.gs).s11 c.na c.nl c.nc c.ns).s12 c.da c.dl c.dc c.ds).s13 c.ba c.bl c.bc c.bs).s14 c.pa c.pl c.pc c.ps)
theorem below_setCells {n : Nat} {w0 : World} (B : Nat) (hB : n ≤ B) : ∀ (vs : List Value) (o : Nat) (w : World), Below n w0 w → Below n w0 (w.setCells B o vs)
  | [], _, _, h => h
  | v :: r, o, w, h => below_setCells B hB r (o + 1) _ (h.setCell (p := ⟨B, o, none⟩) hB v)
theorem stoW_below {n : Nat} {w0 w : World} {B : Nat} (c : Ck) (h : Below n w0 w) (hB : n ≤ B) : Below n w0 (stoW w B c) := below_setCells B hB _ _ _ h
theorem other_setCells (B b : Nat) (hb : b ≠ B) : ∀ (vs : List Value) (o : Nat) (w : World), (w.setCells B o vs).heap[b]? = w.heap[b]?
  | [], _, _ => rfl
  | v :: r, o, w => (other_setCells B b hb r (o + 1) _).trans (by simp [World.setCell, Array.getElem?_modify, Ne.symm hb])
theorem stoW_other {w : World} {B b : Nat} {d : Ck} (c : Ck) (h : Bx w b d) (hb : b ≠ B) : Bx (stoW w B c) b d := (other_setCells B b hb _ _ _).trans h

/-- the flags that do not count -/
def offF (f k : Int) : Int := bits .andNot .u8 f (cnt k)
/-- what stands beside -/
def bes (c : Ck) : Ck :=
  let c := { c with flags := offF c.flags c.kind }
  if c.kind = 16 then { c with na := none, nl := 0, nc := 0, ns := [], win := 0, ga := none, gl := 0, gc := 0, gs := [], da := none, dl := 0, dc := 0, ds := [], tsn := 0 }
  else if c.kind = 3 then { c with win := 0, ga := none, gl := 0, gc := 0, gs := [], da := none, dl := 0, dc := 0, ds := [], tsn := 0 }
  else if c.kind = 7 then { c with tsn := 0 }
  else if c.kind = 8 ∨ c.kind = 11 ∨ c.kind = 14 then c
  else if c.kind = 1 ∨ c.kind = 2 then { c with tag := 0, win := 0, out := 0, inn := 0, tsn := 0, pa := none, pl := 0, pc := 0, ps := [] }
  else if c.kind = 4 ∨ c.kind = 5 ∨ c.kind = 6 ∨ c.kind = 9 then { c with pa := none, pl := 0, pc := 0, ps := [] }
  else if c.kind = 0 then { c with tsn := 0, stream := 0, ssn := 0, proto := 0, ba := none, bl := 0, bc := 0, bs := [] }
  else { c with ba := none, bl := 0, bc := 0, bs := [] }
theorem Bx.keep {w : World} {B b : Nat} {c : Ck} (h : Bx w B c) (hb : b ≠ B) (i : Nat) (v : Value) : Bx (w.setCell ⟨b, i, none⟩ v) B c := by
  unfold Bx at *
  rw [← h]
  simp [World.setCell, Array.getElem?_modify, hb]
theorem Bx.drew {w : World} {B : Nat} {c : Ck} (h : Bx w B c) : Bx w.drew B c := h
theorem cell_res {w : World} {B p : Nat} {c : Ck} {fn : Func} (h : fn.results = #[.cell p 37]) (hb : Bx w B c) (tmps : Array Value) (hp : tmps.getD p undef = .pointer (some ⟨B, 0, none⟩)) : (results fn tmps).run Try.prog w = .ok (cv c) w :=
  results_cell_row h tmps w B 37 (cc c) (0, 0) _ hp hb Try.underlying37 rfl infoC
set_option maxHeartbeats 4000000 in
theorem beside (c : Ck) (w : World) : Calls Try.prog 27 #[cv c] w fun e w' => e = .returned (cv (bes c)) ∧ Below w.heap.size w w' := by
  have b1 := Bx.new w c
  have b2 : Bx ((w.alloc (.cells (cc c) 37)).alloc (.cells #[.int .u8 0, .int .u8 0, .int .u32 0, .int .u16 0, .int .u16 0, .int .u32 0, .int .u32 0, .int .u32 0, .int .u16 0, .int .u16 0, .slice none 0 0, .slice none 0 0, .slice none 0 0, .slice none 0 0, .slice none 0 0] 37)) (w.heap.size + 1) (zck 0) := by
    have := Bx.new (w.alloc (.cells (cc c) 37)) (zck 0)
    rwa [World.size_alloc] at this
  have b1' := b1.alloc (.cells #[.int .u8 0, .int .u8 0, .int .u32 0, .int .u16 0, .int .u16 0, .int .u32 0, .int .u32 0, .int .u32 0, .int .u16 0, .int .u16 0, .slice none 0 0, .slice none 0 0, .slice none 0 0, .slice none 0 0, .slice none 0 0] 37)
  have hb : Below w.heap.size w ((w.alloc (.cells (cc c) 37)).alloc (.cells #[.int .u8 0, .int .u8 0, .int .u32 0, .int .u16 0, .int .u16 0, .int .u32 0, .int .u32 0, .int .u32 0, .int .u16 0, .int .u16 0, .slice none 0 0, .slice none 0 0, .slice none 0 0, .slice none 0 0, .slice none 0 0] 37)) := (below_box w c).alloc (by simp) _
  have hne : w.heap.size ≠ w.heap.size + 1 := by omega
  have HN := hidden hne
  have HL := hidden (show w.heap.size ≤ w.heap.size + 1 by omega)
  clear b1 hne
  go_enter Try.func27, Try.ntmps27
  go_upto_region 1 with fail
  generalize (w.alloc (.cells (cc c) 37)).alloc (.cells #[.int .u8 0, .int .u8 0, .int .u32 0, .int .u16 0, .int .u16 0, .int .u32 0, .int .u32 0, .int .u32 0, .int .u16 0, .int .u16 0, .slice none 0 0, .slice none 0 0, .slice none 0 0, .slice none 0 0, .slice none 0 0] 37) = W at *
  generalize w.heap.size + 1 = B2 at *
  have H1 := hidden b1'
  have H2 := hidden b2
  have HB := hidden hb
  clear b1' b2 hb
  go_cut [3, 4, 5, 6, 7, 8, 9] (fun _ _ _ _ _ _ _ wx => Bx wx w.heap.size { c with flags := offF c.flags c.kind } ∧ Bx wx B2 (zck 0) ∧ Below w.heap.size w wx)
  case first =>
    have K1 := H1.out.c1
    have K0 := H1.out.c0
    have f1 := H1.out.fr 1
    go_region_with (first | (go_at_call 50; refine (counting _ _).mono ?_; rintro e w' ⟨rfl, rfl⟩))
    all_goals (go_wp2_with fail; go_meet; exact ⟨H1.out.s1 _, H2.out.keep HN.out _ _, (HB.out.setCell (p := ⟨w.heap.size, 1, none⟩) (Nat.le_refl _) _).drew⟩)
  case rest =>
  obtain ⟨b1, b2, hb⟩ := hcut
  have HB0 := hidden hb
  have HC0 := hidden b1
  have HZ0 := hidden b2
  clear hb b1 b2 H1 H2 HB
  rcases kind_cases c.kind with hk | hk | hk | hk | hk | hk | hk | hk | hk | hk | hk | hk | hk | hk | hk
  · have b1 := (((((HC0.out.s2 0).s3 0).s4 0).s5 0).s13 none 0 0 [])
    have b2 := (((((HZ0.out.keep HN.out 2 (.int .u32 0)).keep HN.out 3 (.int .u16 0)).keep HN.out 4 (.int .u16 0)).keep HN.out 5 (.int .u32 0)).keep HN.out 13 (.slice none 0 0))
    have b3 := stoW_bx b2 (bes c)
    have hS := sto_run b2 (bes c)
    have hB := hidden (stoW_below (bes c) (((((HB0.out.setCell (p := ⟨w.heap.size, 2, none⟩) (Nat.le_refl _) (.int .u32 0)).setCell (p := ⟨w.heap.size, 3, none⟩) (Nat.le_refl _) (.int .u16 0)).setCell (p := ⟨w.heap.size, 4, none⟩) (Nat.le_refl _) (.int .u16 0)).setCell (p := ⟨w.heap.size, 5, none⟩) (Nat.le_refl _) (.int .u32 0)).setCell (p := ⟨w.heap.size, 13, none⟩) (Nat.le_refl _) (.slice none 0 0)) HL.out)
    have hE := b1.ld
    rw [show cv _ = cv (bes c) from ?hE0] at hE
    have H3 := hidden b3
    clear b1 b2 b3
    have K0 := HC0.out.c2
    have f0 := HC0.out.fr 2
    have K1 := (HC0.out.s2 0).c3
    have f1 := (HC0.out.s2 0).fr 3
    have K2 := ((HC0.out.s2 0).s3 0).c4
    have f2 := ((HC0.out.s2 0).s3 0).fr 4
    have K3 := (((HC0.out.s2 0).s3 0).s4 0).c5
    have f3 := (((HC0.out.s2 0).s3 0).s4 0).fr 5
    have K4 := ((((HC0.out.s2 0).s3 0).s4 0).s5 0).c13
    have f4 := ((((HC0.out.s2 0).s3 0).s4 0).s5 0).fr 13
    have K99 := HC0.out.c0
    simp only [] at K99
    go_wp2_with fail
    refine bodyPost_ret (v := cv (bes c)) (cell_res Try.results27 H3.out _ rfl) rfl ⟨rfl, hB.out⟩
    case hE0 => unfold bes; simp [hk]
  · have b1 := ((((((HC0.out.s6 0).s7 0).s8 0).s9 0).s2 0).s14 none 0 0 [])
    have b2 := ((((((HZ0.out.keep HN.out 6 (.int .u32 0)).keep HN.out 7 (.int .u32 0)).keep HN.out 8 (.int .u16 0)).keep HN.out 9 (.int .u16 0)).keep HN.out 2 (.int .u32 0)).keep HN.out 14 (.slice none 0 0))
    have b3 := stoW_bx b2 (bes c)
    have hS := sto_run b2 (bes c)
    have hB := hidden (stoW_below (bes c) ((((((HB0.out.setCell (p := ⟨w.heap.size, 6, none⟩) (Nat.le_refl _) (.int .u32 0)).setCell (p := ⟨w.heap.size, 7, none⟩) (Nat.le_refl _) (.int .u32 0)).setCell (p := ⟨w.heap.size, 8, none⟩) (Nat.le_refl _) (.int .u16 0)).setCell (p := ⟨w.heap.size, 9, none⟩) (Nat.le_refl _) (.int .u16 0)).setCell (p := ⟨w.heap.size, 2, none⟩) (Nat.le_refl _) (.int .u32 0)).setCell (p := ⟨w.heap.size, 14, none⟩) (Nat.le_refl _) (.slice none 0 0)) HL.out)
    have hE := b1.ld
    rw [show cv _ = cv (bes c) from ?hE1] at hE
    have H3 := hidden b3
    clear b1 b2 b3
    have K0 := HC0.out.c6
    have f0 := HC0.out.fr 6
    have K1 := (HC0.out.s6 0).c7
    have f1 := (HC0.out.s6 0).fr 7
    have K2 := ((HC0.out.s6 0).s7 0).c8
    have f2 := ((HC0.out.s6 0).s7 0).fr 8
    have K3 := (((HC0.out.s6 0).s7 0).s8 0).c9
    have f3 := (((HC0.out.s6 0).s7 0).s8 0).fr 9
    have K4 := ((((HC0.out.s6 0).s7 0).s8 0).s9 0).c2
    have f4 := ((((HC0.out.s6 0).s7 0).s8 0).s9 0).fr 2
    have K5 := (((((HC0.out.s6 0).s7 0).s8 0).s9 0).s2 0).c14
    have f5 := (((((HC0.out.s6 0).s7 0).s8 0).s9 0).s2 0).fr 14
    have K99 := HC0.out.c0
    simp only [] at K99
    go_wp2_with fail
    refine bodyPost_ret (v := cv (bes c)) (cell_res Try.results27 H3.out _ rfl) rfl ⟨rfl, hB.out⟩
    case hE1 => unfold bes; simp [hk]
  · have b1 := ((((((HC0.out.s6 0).s7 0).s8 0).s9 0).s2 0).s14 none 0 0 [])
    have b2 := ((((((HZ0.out.keep HN.out 6 (.int .u32 0)).keep HN.out 7 (.int .u32 0)).keep HN.out 8 (.int .u16 0)).keep HN.out 9 (.int .u16 0)).keep HN.out 2 (.int .u32 0)).keep HN.out 14 (.slice none 0 0))
    have b3 := stoW_bx b2 (bes c)
    have hS := sto_run b2 (bes c)
    have hB := hidden (stoW_below (bes c) ((((((HB0.out.setCell (p := ⟨w.heap.size, 6, none⟩) (Nat.le_refl _) (.int .u32 0)).setCell (p := ⟨w.heap.size, 7, none⟩) (Nat.le_refl _) (.int .u32 0)).setCell (p := ⟨w.heap.size, 8, none⟩) (Nat.le_refl _) (.int .u16 0)).setCell (p := ⟨w.heap.size, 9, none⟩) (Nat.le_refl _) (.int .u16 0)).setCell (p := ⟨w.heap.size, 2, none⟩) (Nat.le_refl _) (.int .u32 0)).setCell (p := ⟨w.heap.size, 14, none⟩) (Nat.le_refl _) (.slice none 0 0)) HL.out)
    have hE := b1.ld
    rw [show cv _ = cv (bes c) from ?hE2] at hE
    have H3 := hidden b3
    clear b1 b2 b3
    have K0 := HC0.out.c6
    have f0 := HC0.out.fr 6
    have K1 := (HC0.out.s6 0).c7
    have f1 := (HC0.out.s6 0).fr 7
    have K2 := ((HC0.out.s6 0).s7 0).c8
    have f2 := ((HC0.out.s6 0).s7 0).fr 8
    have K3 := (((HC0.out.s6 0).s7 0).s8 0).c9
    have f3 := (((HC0.out.s6 0).s7 0).s8 0).fr 9
    have K4 := ((((HC0.out.s6 0).s7 0).s8 0).s9 0).c2
    have f4 := ((((HC0.out.s6 0).s7 0).s8 0).s9 0).fr 2
    have K5 := (((((HC0.out.s6 0).s7 0).s8 0).s9 0).s2 0).c14
    have f5 := (((((HC0.out.s6 0).s7 0).s8 0).s9 0).s2 0).fr 14
    have K99 := HC0.out.c0
    simp only [] at K99
    go_wp2_with fail
    refine bodyPost_ret (v := cv (bes c)) (cell_res Try.results27 H3.out _ rfl) rfl ⟨rfl, hB.out⟩
    case hE2 => unfold bes; simp [hk]
  · have b1 := ((((HC0.out.s7 0).s10 none 0 0 []).s12 none 0 0 []).s2 0)
    have b2 := ((((HZ0.out.keep HN.out 7 (.int .u32 0)).keep HN.out 10 (.slice none 0 0)).keep HN.out 12 (.slice none 0 0)).keep HN.out 2 (.int .u32 0))
    have b3 := stoW_bx b2 (bes c)
    have hS := sto_run b2 (bes c)
    have hB := hidden (stoW_below (bes c) ((((HB0.out.setCell (p := ⟨w.heap.size, 7, none⟩) (Nat.le_refl _) (.int .u32 0)).setCell (p := ⟨w.heap.size, 10, none⟩) (Nat.le_refl _) (.slice none 0 0)).setCell (p := ⟨w.heap.size, 12, none⟩) (Nat.le_refl _) (.slice none 0 0)).setCell (p := ⟨w.heap.size, 2, none⟩) (Nat.le_refl _) (.int .u32 0)) HL.out)
    have hE := b1.ld
    rw [show cv _ = cv (bes c) from ?hE3] at hE
    have H3 := hidden b3
    clear b1 b2 b3
    have K0 := HC0.out.c7
    have f0 := HC0.out.fr 7
    have K1 := (HC0.out.s7 0).c10
    have f1 := (HC0.out.s7 0).fr 10
    have K2 := ((HC0.out.s7 0).s10 none 0 0 []).c12
    have f2 := ((HC0.out.s7 0).s10 none 0 0 []).fr 12
    have K3 := (((HC0.out.s7 0).s10 none 0 0 []).s12 none 0 0 []).c2
    have f3 := (((HC0.out.s7 0).s10 none 0 0 []).s12 none 0 0 []).fr 2
    have K99 := HC0.out.c0
    simp only [] at K99
    go_wp2_with fail
    refine bodyPost_ret (v := cv (bes c)) (cell_res Try.results27 H3.out _ rfl) rfl ⟨rfl, hB.out⟩
    case hE3 => unfold bes; simp [hk]
  · have b1 := (HC0.out.s14 none 0 0 [])
    have b2 := (HZ0.out.keep HN.out 14 (.slice none 0 0))
    have b3 := stoW_bx b2 (bes c)
    have hS := sto_run b2 (bes c)
    have hB := hidden (stoW_below (bes c) (HB0.out.setCell (p := ⟨w.heap.size, 14, none⟩) (Nat.le_refl _) (.slice none 0 0)) HL.out)
    have hE := b1.ld
    rw [show cv _ = cv (bes c) from ?hE4] at hE
    have H3 := hidden b3
    clear b1 b2 b3
    have K0 := HC0.out.c14
    have f0 := HC0.out.fr 14
    have K99 := HC0.out.c0
    simp only [] at K99
    go_wp2_with fail
    refine bodyPost_ret (v := cv (bes c)) (cell_res Try.results27 H3.out _ rfl) rfl ⟨rfl, hB.out⟩
    case hE4 => unfold bes; simp [hk]
  · have b1 := (HC0.out.s14 none 0 0 [])
    have b2 := (HZ0.out.keep HN.out 14 (.slice none 0 0))
    have b3 := stoW_bx b2 (bes c)
    have hS := sto_run b2 (bes c)
    have hB := hidden (stoW_below (bes c) (HB0.out.setCell (p := ⟨w.heap.size, 14, none⟩) (Nat.le_refl _) (.slice none 0 0)) HL.out)
    have hE := b1.ld
    rw [show cv _ = cv (bes c) from ?hE5] at hE
    have H3 := hidden b3
    clear b1 b2 b3
    have K0 := HC0.out.c14
    have f0 := HC0.out.fr 14
    have K99 := HC0.out.c0
    simp only [] at K99
    go_wp2_with fail
    refine bodyPost_ret (v := cv (bes c)) (cell_res Try.results27 H3.out _ rfl) rfl ⟨rfl, hB.out⟩
    case hE5 => unfold bes; simp [hk]
  · have b1 := (HC0.out.s14 none 0 0 [])
    have b2 := (HZ0.out.keep HN.out 14 (.slice none 0 0))
    have b3 := stoW_bx b2 (bes c)
    have hS := sto_run b2 (bes c)
    have hB := hidden (stoW_below (bes c) (HB0.out.setCell (p := ⟨w.heap.size, 14, none⟩) (Nat.le_refl _) (.slice none 0 0)) HL.out)
    have hE := b1.ld
    rw [show cv _ = cv (bes c) from ?hE6] at hE
    have H3 := hidden b3
    clear b1 b2 b3
    have K0 := HC0.out.c14
    have f0 := HC0.out.fr 14
    have K99 := HC0.out.c0
    simp only [] at K99
    go_wp2_with fail
    refine bodyPost_ret (v := cv (bes c)) (cell_res Try.results27 H3.out _ rfl) rfl ⟨rfl, hB.out⟩
    case hE6 => unfold bes; simp [hk]
  · have b1 := (HC0.out.s2 0)
    have b2 := (HZ0.out.keep HN.out 2 (.int .u32 0))
    have b3 := stoW_bx b2 (bes c)
    have hS := sto_run b2 (bes c)
    have hB := hidden (stoW_below (bes c) (HB0.out.setCell (p := ⟨w.heap.size, 2, none⟩) (Nat.le_refl _) (.int .u32 0)) HL.out)
    have hE := b1.ld
    rw [show cv _ = cv (bes c) from ?hE7] at hE
    have H3 := hidden b3
    clear b1 b2 b3
    have K0 := HC0.out.c2
    have f0 := HC0.out.fr 2
    have K99 := HC0.out.c0
    simp only [] at K99
    go_wp2_with fail
    refine bodyPost_ret (v := cv (bes c)) (cell_res Try.results27 H3.out _ rfl) rfl ⟨rfl, hB.out⟩
    case hE7 => unfold bes; simp [hk]
  · have b1 := HC0.out
    have b2 := HZ0.out
    have b3 := stoW_bx b2 (bes c)
    have hS := sto_run b2 (bes c)
    have hB := hidden (stoW_below (bes c) HB0.out HL.out)
    have hE := b1.ld
    rw [show cv _ = cv (bes c) from ?hE8] at hE
    have H3 := hidden b3
    clear b1 b2 b3
    have K99 := HC0.out.c0
    simp only [] at K99
    go_wp2_with fail
    refine bodyPost_ret (v := cv (bes c)) (cell_res Try.results27 H3.out _ rfl) rfl ⟨rfl, hB.out⟩
    case hE8 => unfold bes; simp [hk]
  · have b1 := (HC0.out.s14 none 0 0 [])
    have b2 := (HZ0.out.keep HN.out 14 (.slice none 0 0))
    have b3 := stoW_bx b2 (bes c)
    have hS := sto_run b2 (bes c)
    have hB := hidden (stoW_below (bes c) (HB0.out.setCell (p := ⟨w.heap.size, 14, none⟩) (Nat.le_refl _) (.slice none 0 0)) HL.out)
    have hE := b1.ld
    rw [show cv _ = cv (bes c) from ?hE9] at hE
    have H3 := hidden b3
    clear b1 b2 b3
    have K0 := HC0.out.c14
    have f0 := HC0.out.fr 14
    have K99 := HC0.out.c0
    simp only [] at K99
    go_wp2_with fail
    refine bodyPost_ret (v := cv (bes c)) (cell_res Try.results27 H3.out _ rfl) rfl ⟨rfl, hB.out⟩
    case hE9 => unfold bes; simp [hk]
  · have b1 := (HC0.out.s13 none 0 0 [])
    have b2 := (HZ0.out.keep HN.out 13 (.slice none 0 0))
    have b3 := stoW_bx b2 (bes c)
    have hS := sto_run b2 (bes c)
    have hB := hidden (stoW_below (bes c) (HB0.out.setCell (p := ⟨w.heap.size, 13, none⟩) (Nat.le_refl _) (.slice none 0 0)) HL.out)
    have hE := b1.ld
    rw [show cv _ = cv (bes c) from ?hE10] at hE
    have H3 := hidden b3
    clear b1 b2 b3
    have K0 := HC0.out.c13
    have f0 := HC0.out.fr 13
    have K99 := HC0.out.c0
    simp only [] at K99
    go_wp2_with fail
    refine bodyPost_ret (v := cv (bes c)) (cell_res Try.results27 H3.out _ rfl) rfl ⟨rfl, hB.out⟩
    case hE10 => unfold bes; simp [hk]
  · have b1 := HC0.out
    have b2 := HZ0.out
    have b3 := stoW_bx b2 (bes c)
    have hS := sto_run b2 (bes c)
    have hB := hidden (stoW_below (bes c) HB0.out HL.out)
    have hE := b1.ld
    rw [show cv _ = cv (bes c) from ?hE11] at hE
    have H3 := hidden b3
    clear b1 b2 b3
    have K99 := HC0.out.c0
    simp only [] at K99
    go_wp2_with fail
    refine bodyPost_ret (v := cv (bes c)) (cell_res Try.results27 H3.out _ rfl) rfl ⟨rfl, hB.out⟩
    case hE11 => unfold bes; simp [hk]
  · have b1 := HC0.out
    have b2 := HZ0.out
    have b3 := stoW_bx b2 (bes c)
    have hS := sto_run b2 (bes c)
    have hB := hidden (stoW_below (bes c) HB0.out HL.out)
    have hE := b1.ld
    rw [show cv _ = cv (bes c) from ?hE14] at hE
    have H3 := hidden b3
    clear b1 b2 b3
    have K99 := HC0.out.c0
    simp only [] at K99
    go_wp2_with fail
    refine bodyPost_ret (v := cv (bes c)) (cell_res Try.results27 H3.out _ rfl) rfl ⟨rfl, hB.out⟩
    case hE14 => unfold bes; simp [hk]
  · have b1 := (((((HC0.out.s11 none 0 0 []).s7 0).s10 none 0 0 []).s12 none 0 0 []).s2 0)
    have b2 := (((((HZ0.out.keep HN.out 11 (.slice none 0 0)).keep HN.out 7 (.int .u32 0)).keep HN.out 10 (.slice none 0 0)).keep HN.out 12 (.slice none 0 0)).keep HN.out 2 (.int .u32 0))
    have b3 := stoW_bx b2 (bes c)
    have hS := sto_run b2 (bes c)
    have hB := hidden (stoW_below (bes c) (((((HB0.out.setCell (p := ⟨w.heap.size, 11, none⟩) (Nat.le_refl _) (.slice none 0 0)).setCell (p := ⟨w.heap.size, 7, none⟩) (Nat.le_refl _) (.int .u32 0)).setCell (p := ⟨w.heap.size, 10, none⟩) (Nat.le_refl _) (.slice none 0 0)).setCell (p := ⟨w.heap.size, 12, none⟩) (Nat.le_refl _) (.slice none 0 0)).setCell (p := ⟨w.heap.size, 2, none⟩) (Nat.le_refl _) (.int .u32 0)) HL.out)
    have hE := b1.ld
    rw [show cv _ = cv (bes c) from ?hE16] at hE
    have H3 := hidden b3
    clear b1 b2 b3
    have K0 := HC0.out.c11
    have f0 := HC0.out.fr 11
    have K1 := (HC0.out.s11 none 0 0 []).c7
    have f1 := (HC0.out.s11 none 0 0 []).fr 7
    have K2 := ((HC0.out.s11 none 0 0 []).s7 0).c10
    have f2 := ((HC0.out.s11 none 0 0 []).s7 0).fr 10
    have K3 := (((HC0.out.s11 none 0 0 []).s7 0).s10 none 0 0 []).c12
    have f3 := (((HC0.out.s11 none 0 0 []).s7 0).s10 none 0 0 []).fr 12
    have K4 := ((((HC0.out.s11 none 0 0 []).s7 0).s10 none 0 0 []).s12 none 0 0 []).c2
    have f4 := ((((HC0.out.s11 none 0 0 []).s7 0).s10 none 0 0 []).s12 none 0 0 []).fr 2
    have K99 := HC0.out.c0
    simp only [] at K99
    go_wp2_with fail
    refine bodyPost_ret (v := cv (bes c)) (cell_res Try.results27 H3.out _ rfl) rfl ⟨rfl, hB.out⟩
    case hE16 => unfold bes; simp [hk]
  · have HKK := hidden hk
    obtain ⟨h0, h1, h2, h3, h4, h5, h6, h7, h8, h9, h10, h11, h14, h16⟩ := hk
    have e0 := beq_f h0
    have e1 := beq_f h1
    have e2 := beq_f h2
    have e3 := beq_f h3
    have e4 := beq_f h4
    have e5 := beq_f h5
    have e6 := beq_f h6
    have e7 := beq_f h7
    have e8 := beq_f h8
    have e9 := beq_f h9
    have e10 := beq_f h10
    have e11 := beq_f h11
    have e14 := beq_f h14
    have e16 := beq_f h16
    clear h0 h1 h2 h3 h4 h5 h6 h7 h8 h9 h10 h11 h14 h16
    have b1 := (HC0.out.s13 none 0 0 [])
    have b2 := (HZ0.out.keep HN.out 13 (.slice none 0 0))
    have b3 := stoW_bx b2 (bes c)
    have hS := sto_run b2 (bes c)
    have hB := hidden (stoW_below (bes c) (HB0.out.setCell (p := ⟨w.heap.size, 13, none⟩) (Nat.le_refl _) (.slice none 0 0)) HL.out)
    have hE := b1.ld
    rw [show cv _ = cv (bes c) from ?hEo] at hE
    have H3 := hidden b3
    clear b1 b2 b3
    have K0 := HC0.out.c13
    have f0 := HC0.out.fr 13
    have K99 := HC0.out.c0
    simp only [] at K99
    go_wp2_with fail
    refine bodyPost_ret (v := cv (bes c)) (cell_res Try.results27 H3.out _ rfl) rfl ⟨rfl, hB.out⟩
    case hEo => unfold bes; simp [HKK.out.1, HKK.out.2]
end Go.Proofs.Ytifdkpifambhaaa.Chu
