/-
  The chunk that is known.
  Conditions: none.
-/
import Derived.Test.YtifdkpifambhaaaChY
import Derived.Test.YtifdkpifambhaaaChS
import Derived.Lib.SlBytesConst
namespace Go.Proofs.Ytifdkpifambhaaa.Chu
open Go.ChangeShapes Go.WideShapes Go.ChangeAt Go.RowKit
open Par (hidden Bytes Row Prm Prms cell_lt Cap cells_new cutA thrown form_of)
set_option linter.unusedVariables false

/-- a slice of one chunk -/
def bsl (v : Value) : Sem Value := Instr.buildSlice 22 1 #[(0, v)]
theorem execOp_bs (ρ : Operand → Value) (dst : Option Tmp) (x : Operand) (ty : TypeId) (pos : String) (after : Array Edge) (guard : Option (Nat × Bool)) :
    execOp ρ { dst := dst, op := .buildSlice 22 1 #[(0, x)], type := ty, pos := pos, after := after, guard := guard } = (do pure (.value (← bsl (ρ x)))) := by
  unfold execOp
  simp [bsl]
theorem run_bsl (c : Ck) (w : World) : (bsl (cv c)).run Try.prog w = .ok (.slice (some ⟨w.heap.size, 0, none⟩) 1 1) (w.alloc (.cells (cc c) 37)) := by kernel_rfl
attribute [local go_sem ↓] execOp_ld execOp_bx execOp_st execOp_bs
attribute [local go_sem] run_bsl

theorem cks_one {base : Nat} {w : World} {c : Ck} (h : Chk base w c) (hb : base ≤ w.heap.size) : Cks base (w.alloc (.cells (cc c) 37)) (some ⟨w.heap.size, 0, none⟩) 1 [c] := by
  refine ⟨rfl, by decide, ?_, .inr ⟨_, 0, rfl, hb, fun j u hj => ?_⟩⟩
  · intro d hd
    obtain rfl : d = c := by simpa using hd
    exact h.later (below_box w _)
  · have e : ccs [c] = (cc c).toList := by simp [ccs]
    rw [e] at hj
    rw [Nat.zero_add]
    exact bx_cell (Bx.new w c) (by simpa using hj)
/-- the known chunk, its bytes at block b -/
def kn (b : Nat) : Ck := ⟨0, 3, 1, 2, 3, 0, 0, 0, 0, 0, none, 0, 0, [], none, 0, 0, [], none, 0, 0, [], some ⟨b, 0, none⟩, 2, 2, [104, 105], none, 0, 0, []⟩
def knv : Ch := ⟨0, 3, 1, 2, 3, 0, 0, 0, 0, 0, [], [], [], [104, 105], []⟩
theorem kn_val (b : Nat) : val (kn b) = knv := rfl
theorem kn_chk (w : World) : Chk 0 (w.alloc (.cells #[.int .u8 104, .int .u8 105] 5 (2, 3))) (kn w.heap.size) := by
  refine ⟨by simp [Nums, kn], Gaps.nil _ _ _, Gaps.nil _ _ _, Fours.nil _ _ _, ⟨rfl, show ∀ n ∈ ([104, 105] : List Int), 0 ≤ n ∧ n < 256 by decide, by simp [kn], .inr ⟨_, _, rfl, Nat.zero_le _, fun j hj => ?_⟩⟩, (fun h => by cases h), Prms.nil _ _ _⟩
  have h1 := heap_alloc_new w (.cells #[.int .u8 104, .int .u8 105] 5 (2, 3))
  simp only [World.cell?, h1]
  have hj' : j < 2 := hj
  match j, hj' with
  | 0, _ => rfl
  | 1, _ => rfl
theorem kn_ok : chk knv = 0 := chk_of knv (show (3 : Int) < 8 by decide) (by simp [FieldOk, knv]) (by simp [knv]) (by simp [knv]) (by simp [knv]) rfl (show vlen knv ≤ 65531 by decide)
theorem kn_vok : VOk knv := by
  refine ⟨by decide, by decide, by decide, by decide, by decide, by decide, by decide, by decide, by decide, by decide, nums_nil, nums_nil, ds_nil, show ∀ n ∈ ([104, 105] : List Int), 0 ≤ n ∧ n < 256 by decide, ps_nil⟩
theorem kn_tot : tot [knv] = 20 := by decide
theorem kn_enc : encA [knv] = [0, 3, 0, 18, 0, 0, 0, 1, 0, 2, 0, 3, 0, 0, 0, 0, 104, 105, 0, 0] := by decide
theorem kn_str : strOfNums [0, 3, 0, 18, 0, 0, 0, 1, 0, 2, 0, 3, 0, 0, 0, 0, 104, 105, 0, 0] = ⟨#[0, 3, 0, 18, 0, 0, 0, 1, 0, 2, 0, 3, 0, 0, 0, 0, 104, 105, 0, 0]⟩ := by decide
theorem kn_code {e : Int} (h : EncR [knv] e) : e = 0 := by
  rcases h with ⟨k, v, hk, _, hne, _⟩ | ⟨_, ht, _⟩ | ⟨_, _, h⟩
  · have : v ∈ [knv] := List.mem_of_getElem? hk
    obtain rfl : v = knv := by simpa using this
    exact absurd kn_ok hne
  · rw [kn_tot] at ht
    omega
  · exact h
theorem kn_dec {e : Int} {y : Ch} {m : Nat} (h : Dec [0, 3, 0, 18, 0, 0, 0, 1, 0, 2, 0, 3, 0, 0, 0, 0, 104, 105, 0, 0] e y m) : e = 0 ∧ y = knv ∧ m = 20 := by
  have hb := back knv kn_vok kn_ok []
  have e1 : encC knv ++ [] = [0, 3, 0, 18, 0, 0, 0, 1, 0, 2, 0, 3, 0, 0, 0, 0, 104, 105, 0, 0] := by decide
  rw [e1] at hb
  obtain ⟨a, b⟩ := hb.one h
  obtain ⟨c, d⟩ := b rfl
  exact ⟨a.symm, c.symm, by rw [← d]; decide⟩
theorem kn_bytes : Bytes [0, 3, 0, 18, 0, 0, 0, 1, 0, 2, 0, 3, 0, 0, 0, 0, 104, 105, 0, 0] := by unfold Bytes; decide
theorem row_new (w : World) (zs : List Int) (h : Bytes zs) (hl : zs.length ≤ 140737488355328) : Row 0 (w.alloc (.cells (zs.map (Value.int .u8)).toArray 5)) (some ⟨w.heap.size, 0, none⟩) zs.length zs := by
  refine ⟨rfl, h, hl, .inr ⟨_, _, rfl, Nat.zero_le _, fun j hj => ?_⟩⟩
  have h1 := heap_alloc_new w (.cells (zs.map (Value.int .u8)).toArray 5)
  simp only [World.cell?, h1, Nat.zero_add]
  simp [List.getElem?_eq_getElem hj, List.getD_eq_getElem?_getD]
set_option maxRecDepth 20000 in
set_option maxHeartbeats 1000000 in
theorem awake (w : World) : Calls Try.prog 11 #[] w fun e w' => e = .returned (.bool true) ∧ Below w.heap.size w w' := by
  obtain ⟨W, hS, hbx, hbw⟩ := newvar (w.alloc (.cells #[.int .u8 104, .int .u8 105] 5 (2, 3))) (kn w.heap.size)
  have hS' : (sto (.pointer (some ⟨w.heap.size + 1, 0, none⟩)) (.agg #[.int .u8 0, .int .u8 3, .int .u32 1, .int .u16 2, .int .u16 3, .int .u32 0, .int .u32 0, .int .u32 0, .int .u16 0, .int .u16 0, .slice none 0 0, .slice none 0 0, .slice none 0 0, .slice (some ⟨w.heap.size, 0, none⟩) 2 2, .slice none 0 0])).run Try.prog
      ((w.alloc (.cells #[.int .u8 104, .int .u8 105] 5 (2, 3))).alloc (.cells #[.int .u8 0, .int .u8 0, .int .u32 0, .int .u16 0, .int .u16 0, .int .u32 0, .int .u32 0, .int .u32 0, .int .u16 0, .int .u16 0, .slice none 0 0, .slice none 0 0, .slice none 0 0, .slice none 0 0, .slice none 0 0] 37)) = .ok () W := by
    rw [World.size_alloc] at hS
    exact hS
  have hcs : (convert 23 23 (.slice (some ⟨w.heap.size, 0, none⟩) 2 2)).run Try.prog (w.alloc (.cells #[.int .u8 104, .int .u8 105] 5)) = .ok (.slice (some ⟨w.heap.size, 0, none⟩) 2 2) (w.alloc (.cells #[.int .u8 104, .int .u8 105] 5 (2, 3))) := Go.Lib.run_convert_bytes_const w 23 5 #[.int .u8 104, .int .u8 105] 2 2 Try.underlying23 Try.underlying5
  have hK : Chk 0 W (kn w.heap.size) := (kn_chk w).later hbw
  have HB0 := hidden (show Below w.heap.size w W from ((Below.refl _ w).alloc (Nat.le_refl _) _).trans (hbw.mono (by simp)))
  rw [World.size_alloc] at hbx
  have l1 := hbx.ld
  have HK := hidden hK
  have HX := hidden hbx
  have EN := hidden (encode 0 _ _ 1 1 _ (cks_one hK (Nat.zero_le _)))
  have HB1 := hidden (HB0.out.trans ((below_box W (kn w.heap.size)).mono HB0.out.size))
  clear hS hbx hbw hK
  go_enter Try.func11, Try.ntmps11
  go_wp2_with fail
  refine Calls.mono EN.out ?_
  rintro e w1 ⟨v, er, rfl, hE, _, h0, b1⟩
  have hE' : EncR [knv] er := hE
  obtain rfl := kn_code hE'
  obtain ⟨g, cap, rfl, hcap⟩ := h0 rfl
  rw [show [kn w.heap.size].map val = [knv] from rfl, kn_enc] at hcap
  rw [show tot ([kn w.heap.size].map val) = 20 from kn_tot]
  have hs0 := HB0.out.size
  have B1 := hidden (HB1.out.trans (b1.mono HB1.out.size))
  have hr := hcap.row kn_bytes
  have HXw := hidden ((HX.out.alloc (.cells (cc (kn w.heap.size)) 37)).later b1)
  have HKw := hidden ((HK.out.later (below_box W (kn w.heap.size))).later b1)
  have DE := hidden (decode 0 w1 (some ⟨g, 0, none⟩) 20 cap _ (hr.mono (Nat.zero_le _)) (by obtain ⟨_, _, _, _, h, _⟩ := hcap; exact h) (fun h => by cases h))
  have HR := hidden hr
  clear hcap hr h0 hE hE' EN b1 l1 HX HK HB1 HB0
  go_wp2_with fail
  refine Calls.mono DE.out ?_
  rintro e w2 ⟨c, m, er, rfl, ⟨y, hD, hv⟩, _, hC, b2⟩
  obtain ⟨rfl, rfl, rfl⟩ := kn_dec hD
  obtain ⟨W2, hS2, hbx2, hbw2⟩ := newvar w2 c
  have b3 := b2.trans (hbw2.mono b2.size)
  have B3 := hidden (B1.out.trans (b3.mono B1.out.size))
  have l1 := (HXw.out.later b3).ld
  have l2 := hbx2.ld
  have hcv := Par.conv_row _ W2 _ 20 cap _ (HR.out.later b3)
  rw [kn_str] at hcv
  have b4 : Below W2.heap.size W2 (W2.alloc (.cells #[.int .u8 0, .int .u8 3, .int .u8 0, .int .u8 18, .int .u8 0, .int .u8 0, .int .u8 0, .int .u8 1, .int .u8 0, .int .u8 2, .int .u8 0, .int .u8 3, .int .u8 0, .int .u8 0, .int .u8 0, .int .u8 0, .int .u8 104, .int .u8 105, .int .u8 0, .int .u8 0] 5)) := (Below.refl _ W2).alloc (Nat.le_refl _) _
  have hcv2 : (convert 23 9 (.slice (some ⟨W2.heap.size, 0, none⟩) 20 20)).run Try.prog (W2.alloc (.cells #[.int .u8 0, .int .u8 3, .int .u8 0, .int .u8 18, .int .u8 0, .int .u8 0, .int .u8 0, .int .u8 1, .int .u8 0, .int .u8 2, .int .u8 0, .int .u8 3, .int .u8 0, .int .u8 0, .int .u8 0, .int .u8 0, .int .u8 104, .int .u8 105, .int .u8 0, .int .u8 0] 5)) = .ok (.string ⟨#[0, 3, 0, 18, 0, 0, 0, 1, 0, 2, 0, 3, 0, 0, 0, 0, 104, 105, 0, 0]⟩) (W2.alloc (.cells #[.int .u8 0, .int .u8 3, .int .u8 0, .int .u8 18, .int .u8 0, .int .u8 0, .int .u8 0, .int .u8 1, .int .u8 0, .int .u8 2, .int .u8 0, .int .u8 3, .int .u8 0, .int .u8 0, .int .u8 0, .int .u8 0, .int .u8 104, .int .u8 105, .int .u8 0, .int .u8 0] 5)) := by
    have := Par.conv_row 0 _ _ 20 20 _ (row_new W2 [0, 3, 0, 18, 0, 0, 0, 1, 0, 2, 0, 3, 0, 0, 0, 0, 104, 105, 0, 0] kn_bytes (by decide))
    rw [kn_str] at this
    exact this
  have SA := hidden (rSame 0 0 _ (kn w.heap.size) c ((HKw.out.later b3).later b4).2 (((hC.later hbw2).later b4).2.mono (Nat.zero_le _)))
  have HV := hidden (hv rfl)
  have l1' := ((HXw.out.later b3).alloc (.cells #[.int .u8 0, .int .u8 3, .int .u8 0, .int .u8 18, .int .u8 0, .int .u8 0, .int .u8 0, .int .u8 1, .int .u8 0, .int .u8 2, .int .u8 0, .int .u8 3, .int .u8 0, .int .u8 0, .int .u8 0, .int .u8 0, .int .u8 104, .int .u8 105, .int .u8 0, .int .u8 0] 5)).ld
  have l2' := (hbx2.alloc (.cells #[.int .u8 0, .int .u8 3, .int .u8 0, .int .u8 18, .int .u8 0, .int .u8 0, .int .u8 0, .int .u8 1, .int .u8 0, .int .u8 2, .int .u8 0, .int .u8 3, .int .u8 0, .int .u8 0, .int .u8 0, .int .u8 0, .int .u8 104, .int .u8 105, .int .u8 0, .int .u8 0] 5)).ld
  have B4 := hidden (B3.out.trans (b4.mono B3.out.size))
  clear hC hbx2 hbw2 b2 b3 hD hv DE b4
  go_wp2_with fail
  refine Calls.mono SA.out ?_
  rintro e w5 ⟨t, rfl, ht, b5⟩
  obtain rfl : t = true := ht.2 (by rw [HV.out]; rfl)
  have B5 := hidden (B4.out.trans (b5.mono B4.out.size))
  clear b5 ht SA
  go_wp2
  go_ret
  exact ⟨rfl, B5.out⟩
/-- a chunk is loaded, as an operation -/
theorem e_ldc {a : Act} {o : Oper} {w : World} {B : Nat} {c : Ck} (x : Operand) (hu : a.eval x = .pointer (some ⟨B, 0, none⟩)) (ho : o.op = .load 37 x) (hb : Bx w B c) : (execOp a.eval o).run Try.prog w = .ok (.value (cv c)) w := by
  unfold execOp
  rw [ho]
  simp only [hu]
  exact Ord.run_v hb.ld
end Go.Proofs.Ytifdkpifambhaaa.Chu
