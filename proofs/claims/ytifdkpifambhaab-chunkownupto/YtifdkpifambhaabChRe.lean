/-
  The document's reader: a value.
  Conditions: the numbers lie within their kinds, the cells hold them.
-/
import Derived.Test.YtifdkpifambhaabChRd
namespace Go.Proofs.Ytifdkpifambhaab.Chu
open Go.ChangeShapes Go.WideShapes Go.ChangeAt Go.RowKit
open Par (hidden Bytes Row Prm Prms cell_lt Cap cells_new cutA thrown form_of)
set_option linter.unusedVariables false
attribute [local go_sem ↓] execOp_ld execOp_bx execOp_st
attribute [local go_sem] run_box

set_option maxRecDepth 20000 in
set_option maxHeartbeats 1000000 in
theorem read10 (base : Nat) (w : World) (a : Option Addr) (len cap : Nat) (v : List Int) (f : Int) (hf : 0 ≤ f ∧ f < 256) (hr : Row base w a len v) (hlc : len ≤ cap) (hnn : a = none → len = 0 ∧ cap = 0) :
    Calls Try.prog 17 #[cv (kf 10 f), .slice a len cap] w fun e w' => RdR w v 10 (zch 10 (flg 10 f)) e w' := by
  have S0 := Ds.start w (kf 10 f) (kf_lsts 10 f)
  have hcc : (cc (zck 0)) = #[.int .u8 0, .int .u8 0, .int .u32 0, .int .u16 0, .int .u16 0, .int .u32 0, .int .u32 0, .int .u32 0, .int .u16 0, .int .u16 0, .slice none 0 0, .slice none 0 0, .slice none 0 0, .slice none 0 0, .slice none 0 0] := rfl
  rw [hcc] at S0
  have HS := hidden S0
  have hzl := hr.1
  have hlim := hr.2.2.1
  have HR := hidden hr
  have HBY := hidden hr.2.1
  clear S0 hcc hr
  have hfl : flg 10 f = 0 := by simp [flg]
  rw [hfl]
  go_enter Try.func17, Try.ntmps17
  go_upto_region 1 with fail
  generalize hW : World.alloc (World.alloc w (.cells (cc (kf 10 f)) 39)) _ = W at *
  clear hW
  have q0 : W.cell? ⟨w.heap.size, 0, none⟩ = some (.int .u8 10) := HS.out.1.c0
  have q1 : W.cell? ⟨w.heap.size, 1, none⟩ = some (.int .u8 f) := HS.out.1.c1
  have z1 := HS.out.1.fr 1
  have s1 : Ds w (W.setCell ⟨w.heap.size, 1, none⟩ (.int .u8 0)) (kf 10 0) := HS.out.store (HS.out.1.s1 0) (kf_lsts _ _ _ _)
  have HS1 := hidden s1
  clear s1
  go_upto_region 44 with fail
  clear q0 q1 z1
  generalize World.setCell _ ⟨w.heap.size, 1, none⟩ (.int .u8 0) = W1 at *
  rcases a with _ | ad
  · obtain ⟨h0, h1⟩ := hnn rfl
    subst h0; subst h1
    obtain rfl := List.eq_nil_of_length_eq_zero hzl
    obtain ⟨i0, hi, hz0, hz1, hz2⟩ := info_parts Par.info5
    have hE := Par.own_empty W1 W1.heap.size (Nat.le_refl _)
    have hEB : Below W1.heap.size W1 (W1.alloc (.cells #[] 5)) := (Below.refl _ W1).alloc (Nat.le_refl _) _
    have HE := hidden hE
    have s7 := HS1.out.later hEB
    have q13 := s7.1.c13
    have z13 := s7.1.fr 13
    have s8 := s7.store (s7.1.s13 (some ⟨W1.heap.size, 0, none⟩) 0 0 []) (lsts_b s7.2.2.2.2 ⟨rfl, bs_nil, by decide, .inl rfl⟩ (fun h => by cases h))
    obtain ⟨f1, f2, f3, f4, f5⟩ := s8.fin
    have F3 := hidden f3
    have F4 := hidden f4
    have F5 := hidden f5
    clear s7 s8 f3 f4 f5 hE hEB
    go_wp2_with (at_builtin; refine wpList_append_own_none rfl _ _ 22 rfl W1.heap.size 5 i0 1 Try.underlying22 hi _ _ _ rfl HE.out rfl ?_)
    go_wp2
    exact bodyPost_ret (cell_res2 Try.results17 F3.out _ rfl rfl) rfl (rd_ok (by unfold Fil; rw [if_neg (by simp [nb]), if_neg (by decide), if_neg (by decide), if_neg (by decide), if_neg (by decide), if_neg (by decide), if_neg (by decide), if_neg (by decide)]; exact ⟨rfl, rfl⟩) F5.out F4.out)
  have HRD := hidden (HR.out.later HS1.out.2.2.1)
  obtain ⟨i0, hi, hz0, hz1, hz2⟩ := info_parts Par.info5
  have hE := Par.own_empty W1 W1.heap.size (Nat.le_refl _)
  have hEB : Below W1.heap.size W1 (W1.alloc (.cells #[] 5)) := (Below.refl _ W1).alloc (Nat.le_refl _) _
  have HE := hidden hE
  have HEB := hidden hEB
  have HN := hidden (((HRD.out).later hEB).news)
  clear hE hEB
  go_wp2_with (at_builtin; refine wpList_append_own _ rfl _ _ 22 rfl W1.heap.size 5 i0 (.int .u8 0) 1 1 Try.underlying22 hi hz0 hz1 hz2 rfl (by decide) _ _ _ rfl HE.out ad len cap (Par.cs v) rfl ?c0 HN.out (Par.cs_one _) ?c3 ?c4 (by simp) ?_)
  case c0 => rw [Par.cs_len, Nat.mul_one]; exact hzl
  case c3 => unfold maxLen; omega
  case c4 => omega
  intro v' w6 ho6 hg6 hv6
  have ho7 : w6.ownsRow W1.heap.size 5 1 v' (len) (Par.cs v) := by simpa using ho6
  obtain ⟨ba, bc, rfl, hrow, hbl, hbm, hbn⟩ := Par.row_own ho7 HRD.out.2.1 (by omega)
  have b6 : Below W1.heap.size W1 w6 := HEB.out.grown hg6 (by simp) (fun j hj => (HE.out.lt j hj).1)
  have s7 := HS1.out.later b6
  have q13 := s7.1.c13
  have z13 := s7.1.fr 13
  have s8 := s7.store (s7.1.s13 ba (len) bc v) (lsts_b s7.2.2.2.2 (hrow.mono HS1.out.2.2.2.1) hbn)
  obtain ⟨f1, f2, f3, f4, f5⟩ := s8.fin
  have F3 := hidden f3
  have F4 := hidden f4
  have F5 := hidden f5
  clear s7 s8 f3 f4 f5 ho6 ho7 hg6 hv6 hrow b6 HE HEB HN
  generalize hc8 : ({ kf 10 0 with ba := ba, bl := len, bc := bc, bs := v } : Ck) = c8 at *
  have HF8 := hidden (show Fil 10 v (zch 10 0) 0 (val c8) by
    rw [← hc8]
    unfold Fil; rw [if_neg (by simp [nb]), if_neg (by decide), if_neg (by decide), if_neg (by decide), if_neg (by decide), if_neg (by decide), if_neg (by decide), if_neg (by decide)]; exact ⟨rfl, rfl⟩)
  clear hc8
  go_wp2
  exact bodyPost_ret (v := .tuple #[cv c8, .int .i64 0]) (cell_res2 Try.results17 F3.out _ rfl rfl) rfl (rd_ok HF8.out F5.out F4.out)
set_option maxRecDepth 20000 in
set_option maxHeartbeats 1000000 in
theorem readO (base : Nat) (w : World) (a : Option Addr) (len cap : Nat) (v : List Int) (k : Int) (hk : Oth k) (f : Int) (hf : 0 ≤ f ∧ f < 256) (hr : Row base w a len v) (hlc : len ≤ cap) (hnn : a = none → len = 0 ∧ cap = 0) :
    Calls Try.prog 17 #[cv (kf k f), .slice a len cap] w fun e w' => RdR w v k (zch k (flg k f)) e w' := by
  have S0 := Ds.start w (kf k f) (kf_lsts k f)
  have hcc : (cc (zck 0)) = #[.int .u8 0, .int .u8 0, .int .u32 0, .int .u16 0, .int .u16 0, .int .u32 0, .int .u32 0, .int .u32 0, .int .u16 0, .int .u16 0, .slice none 0 0, .slice none 0 0, .slice none 0 0, .slice none 0 0, .slice none 0 0] := rfl
  rw [hcc] at S0
  have HS := hidden S0
  have hzl := hr.1
  have hlim := hr.2.2.1
  have HR := hidden hr
  have HBY := hidden hr.2.1
  clear S0 hcc hr
  obtain ⟨k0, k1, k2, k3, k4, k5, k6, k7, k8, k9, k10, k11, k14, k16⟩ := hk
  have hfl : flg k f = f := by simp [flg, k0, k1, k2, k3, k4, k5, k6, k7, k8, k9, k10, k11, k14, k16]
  rw [hfl]
  have e0 := beq_f k0
  have e1 := beq_f k1
  have e2 := beq_f k2
  have e3 := beq_f k3
  have e4 := beq_f k4
  have e5 := beq_f k5
  have e6 := beq_f k6
  have e7 := beq_f k7
  have e8 := beq_f k8
  have e9 := beq_f k9
  have e10 := beq_f k10
  have e11 := beq_f k11
  have e14 := beq_f k14
  have e16 := beq_f k16
  have K0 := hidden k0
  have K1 := hidden k1
  have K2 := hidden k2
  have K3 := hidden k3
  have K4 := hidden k4
  have K5 := hidden k5
  have K6 := hidden k6
  have K7 := hidden k7
  have K8 := hidden k8
  have K9 := hidden k9
  have K10 := hidden k10
  have K11 := hidden k11
  have K14 := hidden k14
  have K16 := hidden k16
  clear k0 k1 k2 k3 k4 k5 k6 k7 k8 k9 k10 k11 k14 k16
  go_enter Try.func17, Try.ntmps17
  go_upto_region 1 with fail
  generalize hW : World.alloc (World.alloc w (.cells (cc (kf k f)) 39)) _ = W at *
  clear hW
  have q0 : W.cell? ⟨w.heap.size, 0, none⟩ = some (.int .u8 k) := HS.out.1.c0
  have q1 : W.cell? ⟨w.heap.size, 1, none⟩ = some (.int .u8 f) := HS.out.1.c1
  have z1 := HS.out.1.fr 1
  go_upto_region 44 with fail
  clear q0 q1 z1 e0 e1 e2 e3 e4 e5 e6 e7 e8 e9 e10 e11 e14 e16
  rcases a with _ | ad
  · obtain ⟨h0, h1⟩ := hnn rfl
    subst h0; subst h1
    obtain rfl := List.eq_nil_of_length_eq_zero hzl
    obtain ⟨i0, hi, hz0, hz1, hz2⟩ := info_parts Par.info5
    have hE := Par.own_empty W W.heap.size (Nat.le_refl _)
    have hEB : Below W.heap.size W (W.alloc (.cells #[] 5)) := (Below.refl _ W).alloc (Nat.le_refl _) _
    have HE := hidden hE
    have s7 := HS.out.later hEB
    have q13 := s7.1.c13
    have z13 := s7.1.fr 13
    have s8 := s7.store (s7.1.s13 (some ⟨W.heap.size, 0, none⟩) 0 0 []) (lsts_b s7.2.2.2.2 ⟨rfl, bs_nil, by decide, .inl rfl⟩ (fun h => by cases h))
    obtain ⟨f1, f2, f3, f4, f5⟩ := s8.fin
    have F3 := hidden f3
    have F4 := hidden f4
    have F5 := hidden f5
    clear s7 s8 f3 f4 f5 hE hEB
    go_wp2_with (at_builtin; refine wpList_append_own_none rfl _ _ 22 rfl W.heap.size 5 i0 1 Try.underlying22 hi _ _ _ rfl HE.out rfl ?_)
    go_wp2
    exact bodyPost_ret (cell_res2 Try.results17 F3.out _ rfl rfl) rfl (rd_ok (by unfold Fil; rw [if_neg (by simp [nb, K0.out, K1.out, K2.out, K3.out, K7.out, K16.out]), if_neg (by simp [K3.out, K16.out]), if_neg K7.out, if_neg (by simp [K8.out, K11.out, K14.out]), if_neg (by simp [K1.out, K2.out]), if_neg (by simp [K4.out, K5.out]), if_neg (by simp [K6.out, K9.out]), if_neg K0.out]; exact ⟨rfl, rfl⟩) F5.out F4.out)
  have HRD := hidden (HR.out.later HS.out.2.2.1)
  obtain ⟨i0, hi, hz0, hz1, hz2⟩ := info_parts Par.info5
  have hE := Par.own_empty W W.heap.size (Nat.le_refl _)
  have hEB : Below W.heap.size W (W.alloc (.cells #[] 5)) := (Below.refl _ W).alloc (Nat.le_refl _) _
  have HE := hidden hE
  have HEB := hidden hEB
  have HN := hidden (((HRD.out).later hEB).news)
  clear hE hEB
  go_wp2_with (at_builtin; refine wpList_append_own _ rfl _ _ 22 rfl W.heap.size 5 i0 (.int .u8 0) 1 1 Try.underlying22 hi hz0 hz1 hz2 rfl (by decide) _ _ _ rfl HE.out ad len cap (Par.cs v) rfl ?c0 HN.out (Par.cs_one _) ?c3 ?c4 (by simp) ?_)
  case c0 => rw [Par.cs_len, Nat.mul_one]; exact hzl
  case c3 => unfold maxLen; omega
  case c4 => omega
  intro v' w6 ho6 hg6 hv6
  have ho7 : w6.ownsRow W.heap.size 5 1 v' (len) (Par.cs v) := by simpa using ho6
  obtain ⟨ba, bc, rfl, hrow, hbl, hbm, hbn⟩ := Par.row_own ho7 HRD.out.2.1 (by omega)
  have b6 : Below W.heap.size W w6 := HEB.out.grown hg6 (by simp) (fun j hj => (HE.out.lt j hj).1)
  have s7 := HS.out.later b6
  have q13 := s7.1.c13
  have z13 := s7.1.fr 13
  have s8 := s7.store (s7.1.s13 ba (len) bc v) (lsts_b s7.2.2.2.2 (hrow.mono HS.out.2.2.2.1) hbn)
  obtain ⟨f1, f2, f3, f4, f5⟩ := s8.fin
  have F3 := hidden f3
  have F4 := hidden f4
  have F5 := hidden f5
  clear s7 s8 f3 f4 f5 ho6 ho7 hg6 hv6 hrow b6 HE HEB HN
  generalize hc8 : ({ kf k f with ba := ba, bl := len, bc := bc, bs := v } : Ck) = c8 at *
  have HF8 := hidden (show Fil k v (zch k f) 0 (val c8) by
    rw [← hc8]
    unfold Fil; rw [if_neg (by simp [nb, K0.out, K1.out, K2.out, K3.out, K7.out, K16.out]), if_neg (by simp [K3.out, K16.out]), if_neg K7.out, if_neg (by simp [K8.out, K11.out, K14.out]), if_neg (by simp [K1.out, K2.out]), if_neg (by simp [K4.out, K5.out]), if_neg (by simp [K6.out, K9.out]), if_neg K0.out]; exact ⟨rfl, rfl⟩)
  clear hc8
  go_wp2
  exact bodyPost_ret (v := .tuple #[cv c8, .int .i64 0]) (cell_res2 Try.results17 F3.out _ rfl rfl) rfl (rd_ok HF8.out F5.out F4.out)
end Go.Proofs.Ytifdkpifambhaab.Chu
