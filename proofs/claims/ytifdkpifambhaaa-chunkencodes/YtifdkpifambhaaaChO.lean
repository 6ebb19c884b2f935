/-
  The reader of package chunk: reports.
  Conditions: the numbers lie within their kinds, the cells hold them; the bytes lie in the memory of an older world, which the reader does not touch.
-/
import Derived.Test.YtifdkpifambhaaaChN
namespace Go.Proofs.Ytifdkpifambhaaa.Chu
open Go.ChangeShapes Go.WideShapes Go.ChangeAt Go.RowKit
open Par (hidden Bytes Row Prm Prms cell_lt Cap cells_new cutA thrown form_of)
set_option linter.unusedVariables false

theorem Fl.rd {base n : Nat} {w0 w : World} {B C p : Nat} {v : List Int} {c : Ck} (h : Fl base n w0 w B C v p c) : ∃ a len cap, w.cell? ⟨B, 0, none⟩ = some (.slice a len cap) ∧ len = v.length - p := by
  obtain ⟨⟨⟨a, len, cap, h1, hrow, _, _⟩, _⟩, _⟩ := h
  exact ⟨a, len, cap, (rd_c h1).1, by rw [← hrow.1, List.length_drop]⟩
theorem max3' (a b d : Int) : ∃ M : Int, (∀ (ts : Array TypeId) (t : TypeId) (w : World), (Builtin.max_ ts t #[.int .i64 a, .int .i64 b, .int .i64 d]).run Try.prog w = .ok (.int .i64 M) w) ∧ (M ≤ 4096 ↔ a ≤ 4096 ∧ b ≤ 4096 ∧ d ≤ 4096) := by
  obtain ⟨M, h1, h2⟩ := max3 a b d
  exact ⟨M, h1, by omega⟩
/-- how many of each -/
def cG (v : List Int) : Nat := (n2 v 8).toNat
def cN (k : Int) (v : List Int) : Nat := if k = 16 then (n2 v 10).toNat else 0
def cD (k : Int) (v : List Int) : Nat := if k = 16 then (n2 v 12).toNat else (n2 v 10).toNat
/-- what a report says -/
def repV (k : Int) (v : List Int) (x : Ch) : Ch :=
  { x with tsn := n4 v 0, win := n4 v 4, gs := gapsAt v (nb k) (cG v), ns := gapsAt v (nb k + 4 * cG v) (cN k v), ds := foursAt v (nb k + 4 * cG v + 4 * cN k v) (cD k v) }

set_option maxHeartbeats 2000000 in
set_option maxRecDepth 20000 in
theorem report3 (base n : Nat) (w0 w : World) (B C : Nat) (v : List Int) (c : Ck) (h : Fl base n w0 w B C v 0 c) (hk : c.kind = 3) (hv : 12 ≤ v.length) (hlim : v.length ≤ 140737488355328) :
    Calls Try.prog 73 #[.pointer (some ⟨B, 0, none⟩), .pointer (some ⟨C, 0, none⟩)] w fun e w' => Tch B C w w' ∧
      ((e = thrown 3 ∧ (∃ c', Bx w' C c') ∧ ¬ (cG v ≤ 4096 ∧ cN 3 v ≤ 4096 ∧ cD 3 v ≤ 4096)) ∨
       (e = thrown 61 ∧ (∃ c', Bx w' C c') ∧ (cG v ≤ 4096 ∧ cN 3 v ≤ 4096 ∧ cD 3 v ≤ 4096) ∧ v.length < 12 + 4 * (cG v + cN 3 v + cD 3 v)) ∨
       (e = .returned (.tuple #[]) ∧ (cG v ≤ 4096 ∧ cN 3 v ≤ 4096 ∧ cD 3 v ≤ 4096) ∧ ∃ c', Fl base n w0 w' B C v (12 + 4 * (cG v + cN 3 v + cD 3 v)) c' ∧ val c' = repV 3 v (val c))) := by
  have hby := h.1.2.2.1
  have x1 := n2_bound hby 8
  have x2 := n2_bound hby 10
  have x3 := n2_bound hby 12
  have HBY := hidden hby
  have HK := hidden hk
  have F1 := hidden (four base w0 w B 0 v h.1 (by omega))
  have HF := hidden h
  have hBC := h.2.2.2.1
  have HBC := hidden hBC
  have hCB := hidden (Ne.symm hBC)
  clear h hk hby hBC
  go_enter Try.func73, Try.ntmps73
  go_wp2_with fail
  refine Calls.mono F1.out ?_
  rintro e w1 ⟨rfl, r1, g1⟩
  have f1 := HF.out.read r1 g1
  have q2 := f1.2.1.c2
  have fr2 := f1.2.1.fr 2
  have f2 := f1.store (f1.2.1.s2 (n4 v 0)) (fun h => h)
  have T2 := hidden ((Tch.ofB (C := C) g1).trans (Tch.ofC (gr_set w1 C 2 (.int .u32 (n4 v 0)))))
  have F2 := hidden (four base w0 _ B 4 v f2.1 (by omega))
  have HF2 := hidden f2
  clear r1 g1 f1 f2 F1 HF
  go_wp2_with fail
  refine Calls.mono F2.out ?_
  rintro e w2 ⟨rfl, r2, g2⟩
  clear q2 fr2
  have f3 := HF2.out.read r2 g2
  have q7 := f3.2.1.c7
  have fr7 := f3.2.1.fr 7
  have f4 := f3.store (f3.2.1.s7 (n4 v 4)) (fun h => h)
  have T4 := hidden (T2.out.trans ((Tch.ofB (C := C) g2).trans (Tch.ofC (gr_set w2 C 7 (.int .u32 (n4 v 4))))))
  have CT := hidden (counts3 base w0 _ B 8 v f4.1 (by omega))
  have q0 := f4.2.1.c0
  simp only [HK.out] at q0
  have HF4 := hidden f4
  clear r2 g2 f3 f4 F2 HF2 T2
  simp only [Nat.reduceAdd] at CT
  go_wp2_with fail
  refine Calls.mono CT.out ?_
  rintro e w3 ⟨rfl, r3, g3⟩
  clear q7 fr7 q0
  have f5 := HF4.out.read r3 g3
  have T5 := hidden (T4.out.trans (Tch.ofB (C := C) g3))
  obtain ⟨G, hG⟩ : ∃ G : Nat, n2 v 8 = (G : Int) := ⟨(n2 v 8).toNat, by omega⟩
  obtain ⟨D, hD⟩ : ∃ D : Nat, n2 v 10 = (D : Int) := ⟨(n2 v 10).toNat, by omega⟩
  have HcN := hidden (show cN 3 v = 0 from rfl)
  have HcD := hidden (show cD 3 v = D by show (n2 v 10).toNat = D; omega)
  have HcG := hidden (show cG v = G by unfold cG; omega)
  have hGl : G < 65536 := by omega
  have hDl : D < 65536 := by omega
  obtain ⟨M, hM, hMi⟩ := max3' (G : Int) 0 (D : Int)
  have HF5 := hidden f5
  clear r3 g3 f5 CT HF4 T4 x1 x2 x3
  by_cases hm : M ≤ 4096
  rotate_left
  · have HL := hidden (show ¬ (cG v ≤ 4096 ∧ cN 3 v ≤ 4096 ∧ cD 3 v ≤ 4096) by rw [HcG.out, HcN.out, HcD.out]; intro hx; exact hm (hMi.2 (by omega)))
    have dm : decide (M ≤ 4096) = false := decide_eq_false hm
    clear hMi
    go_wp2_with fail
    refine Calls.mono (need_bad 3 _) ?_
    rintro e w4 ⟨rfl, rfl⟩
    exact ⟨rfl, T5.out, .inl ⟨rfl, ⟨_, HF5.out.2.1⟩, HL.out⟩⟩
  have hle : G ≤ 4096 ∧ 0 ≤ 4096 ∧ D ≤ 4096 := by have := hMi.1 hm; omega
  have HL := hidden (show cG v ≤ 4096 ∧ cN 3 v ≤ 4096 ∧ cD 3 v ≤ 4096 by rw [HcG.out, HcN.out, HcD.out]; exact hle)
  obtain ⟨hl1, hl2, hl3⟩ := hle
  have dm : decide (M ≤ 4096) = true := decide_eq_true hm
  clear hMi hm
  obtain ⟨a, len, cap, qr, hlen⟩ := HF5.out.rd
  have HLE := hidden hlen
  clear hlen
  have HS := hidden (has a len cap (4 * (G + D)) w3)
  rw [show ((4 * (G + D) : Nat) : Int) = 4 * ((G : Int) + (D : Int)) by omega] at HS
  go_wp2_with fail
  refine Calls.mono (need_ok 3 _) ?_
  rintro e w4 ⟨rfl, rfl⟩
  go_wp2_with fail
  refine Calls.mono HS.out ?_
  rintro e w4 ⟨rfl, rfl⟩
  by_cases hh : 4 * (G + D) ≤ len
  rotate_left
  · rw [decide_eq_false hh]
    have HH := hidden (show v.length < 12 + 4 * (cG v + cN 3 v + cD 3 v) by rw [HcG.out, HcN.out, HcD.out]; have := HLE.out; omega)
    go_wp2_with fail
    refine Calls.mono (need_bad 61 _) ?_
    rintro e w4 ⟨rfl, rfl⟩
    exact ⟨rfl, T5.out, .inr (.inl ⟨rfl, ⟨_, HF5.out.2.1⟩, HL.out, HH.out⟩)⟩
  rw [decide_eq_true hh]
  have hvl : 12 + 4 * (G + D) ≤ v.length := by have := HLE.out; omega
  clear HS qr hh dm hM
  have GA := hidden (gaps base w0 w3 B 12 G v HF5.out.1 hl1 (by omega))
  go_wp2_with fail
  refine Calls.mono (need_ok 61 _) ?_
  rintro e w4 ⟨rfl, rfl⟩
  go_wp2_with fail
  refine Calls.mono GA.out ?_
  rintro e w4 ⟨u1, rfl, o1, r4, g4⟩
  obtain ⟨a1, k1, rfl, hg1⟩ := gaps_own HBY.out hl1 o1
  have f6 := HF5.out.read r4 g4
  have hg1' := hg1.mono HF5.out.2.2.2.2.2.2.2
  have q10 := f6.2.1.c10
  have fr10 := f6.2.1.fr 10
  have f7 := f6.store (f6.2.1.s10 a1 G k1 (gapsAt v 12 G)) (fun h => ⟨hg1', h.2⟩)
  have T7 := hidden (T5.out.trans ((Tch.ofB (C := C) g4).trans (Tch.ofC (gr_set w4 C 10 (.slice a1 G k1)))))
  have GB := hidden (gaps base w0 _ B (12 + 4 * G) 0 v f7.1 hl2 (by omega))
  have HF7 := hidden f7
  clear o1 r4 g4 f6 f7 hg1 hg1' GA HF5 T5
  go_wp2_with fail
  refine Calls.mono GB.out ?_
  rintro e w5 ⟨u2, rfl, o2, r5, g5⟩
  obtain ⟨a2, k2, rfl, hg2⟩ := gaps_own HBY.out hl2 o2
  clear q10 fr10
  have f8 := HF7.out.read r5 g5
  have hg2' := hg2.mono HF7.out.2.2.2.2.2.2.2
  have q11 := f8.2.1.c11
  have fr11 := f8.2.1.fr 11
  have f9 := f8.store (f8.2.1.s11 a2 0 k2 (gapsAt v (12 + 4 * G) 0)) (fun h => ⟨h.1, hg2', h.2.2⟩)
  have T9 := hidden (T7.out.trans ((Tch.ofB (C := C) g5).trans (Tch.ofC (gr_set w5 C 11 (.slice a2 0 k2)))))
  have GC := hidden (foursR base w0 _ B (12 + 4 * G + 4 * 0) D v f9.1 hl3 (by omega))
  have HF9 := hidden f9
  clear o2 r5 g5 f8 f9 hg2 hg2' GB HF7 T7
  go_wp2_with fail
  refine Calls.mono GC.out ?_
  rintro e w6 ⟨u3, rfl, o3, r6, g6⟩
  obtain ⟨a3, k3, rfl, hg3⟩ := fours_own HBY.out hl3 o3
  clear q11 fr11
  have f10 := HF9.out.read r6 g6
  have hg3' := hg3.mono HF9.out.2.2.2.2.2.2.2
  have q12 := f10.2.1.c12
  have fr12 := f10.2.1.fr 12
  have f11 := f10.store (f10.2.1.s12 a3 D k3 (foursAt v (12 + 4 * G + 4 * 0) D)) (fun h => ⟨h.1, h.2.1, hg3', h.2.2.2⟩)
  have T11 := hidden (T9.out.trans ((Tch.ofB (C := C) g6).trans (Tch.ofC (gr_set w6 C 12 (.slice a3 D k3)))))
  have HF11 := hidden f11
  clear o3 r6 g6 f10 f11 hg3 hg3' GC HF9 T9
  go_wp2
  go_end0
  have HQ : 12 + 4 * G + 4 * 0 + 4 * D = 12 + 4 * (cG v + cN 3 v + cD 3 v) := by rw [HcG.out, HcN.out, HcD.out]; omega
  have HF12 := HF11.out
  rw [HQ] at HF12
  exact ⟨T11.out, .inr (.inr ⟨rfl, HL.out, _, HF12, by unfold repV; rw [HcG.out, HcN.out, HcD.out]; rfl⟩)⟩
set_option maxHeartbeats 2000000 in
set_option maxRecDepth 20000 in
theorem report16 (base n : Nat) (w0 w : World) (B C : Nat) (v : List Int) (c : Ck) (h : Fl base n w0 w B C v 0 c) (hk : c.kind = 16) (hv : 16 ≤ v.length) (hlim : v.length ≤ 140737488355328) :
    Calls Try.prog 73 #[.pointer (some ⟨B, 0, none⟩), .pointer (some ⟨C, 0, none⟩)] w fun e w' => Tch B C w w' ∧
      ((e = thrown 3 ∧ (∃ c', Bx w' C c') ∧ ¬ (cG v ≤ 4096 ∧ cN 16 v ≤ 4096 ∧ cD 16 v ≤ 4096)) ∨
       (e = thrown 61 ∧ (∃ c', Bx w' C c') ∧ (cG v ≤ 4096 ∧ cN 16 v ≤ 4096 ∧ cD 16 v ≤ 4096) ∧ v.length < 16 + 4 * (cG v + cN 16 v + cD 16 v)) ∨
       (e = .returned (.tuple #[]) ∧ (cG v ≤ 4096 ∧ cN 16 v ≤ 4096 ∧ cD 16 v ≤ 4096) ∧ ∃ c', Fl base n w0 w' B C v (16 + 4 * (cG v + cN 16 v + cD 16 v)) c' ∧ val c' = repV 16 v (val c))) := by
  have hby := h.1.2.2.1
  have x1 := n2_bound hby 8
  have x2 := n2_bound hby 10
  have x3 := n2_bound hby 12
  have HBY := hidden hby
  have HK := hidden hk
  have F1 := hidden (four base w0 w B 0 v h.1 (by omega))
  have HF := hidden h
  have hBC := h.2.2.2.1
  have HBC := hidden hBC
  have hCB := hidden (Ne.symm hBC)
  clear h hk hby hBC
  go_enter Try.func73, Try.ntmps73
  go_wp2_with fail
  refine Calls.mono F1.out ?_
  rintro e w1 ⟨rfl, r1, g1⟩
  have f1 := HF.out.read r1 g1
  have q2 := f1.2.1.c2
  have fr2 := f1.2.1.fr 2
  have f2 := f1.store (f1.2.1.s2 (n4 v 0)) (fun h => h)
  have T2 := hidden ((Tch.ofB (C := C) g1).trans (Tch.ofC (gr_set w1 C 2 (.int .u32 (n4 v 0)))))
  have F2 := hidden (four base w0 _ B 4 v f2.1 (by omega))
  have HF2 := hidden f2
  clear r1 g1 f1 f2 F1 HF
  go_wp2_with fail
  refine Calls.mono F2.out ?_
  rintro e w2 ⟨rfl, r2, g2⟩
  clear q2 fr2
  have f3 := HF2.out.read r2 g2
  have q7 := f3.2.1.c7
  have fr7 := f3.2.1.fr 7
  have f4 := f3.store (f3.2.1.s7 (n4 v 4)) (fun h => h)
  have T4 := hidden (T2.out.trans ((Tch.ofB (C := C) g2).trans (Tch.ofC (gr_set w2 C 7 (.int .u32 (n4 v 4))))))
  have CT := hidden (counts16 base w0 _ B 8 v f4.1 (by omega))
  have q0 := f4.2.1.c0
  simp only [HK.out] at q0
  have HF4 := hidden f4
  clear r2 g2 f3 f4 F2 HF2 T2
  simp only [Nat.reduceAdd] at CT
  go_wp2_with fail
  refine Calls.mono CT.out ?_
  rintro e w3 ⟨rfl, r3, g3⟩
  clear q7 fr7 q0
  have f5 := HF4.out.read r3 g3
  have T5 := hidden (T4.out.trans (Tch.ofB (C := C) g3))
  obtain ⟨G, hG⟩ : ∃ G : Nat, n2 v 8 = (G : Int) := ⟨(n2 v 8).toNat, by omega⟩
  obtain ⟨N, hN⟩ : ∃ N : Nat, n2 v 10 = (N : Int) := ⟨(n2 v 10).toNat, by omega⟩
  obtain ⟨D, hD⟩ : ∃ D : Nat, n2 v 12 = (D : Int) := ⟨(n2 v 12).toNat, by omega⟩
  have HcN := hidden (show cN 16 v = N by show (n2 v 10).toNat = N; omega)
  have HcD := hidden (show cD 16 v = D by show (n2 v 12).toNat = D; omega)
  have hNl : N < 65536 := by omega
  have HcG := hidden (show cG v = G by unfold cG; omega)
  have hGl : G < 65536 := by omega
  have hDl : D < 65536 := by omega
  obtain ⟨M, hM, hMi⟩ := max3' (G : Int) (N : Int) (D : Int)
  have HF5 := hidden f5
  clear r3 g3 f5 CT HF4 T4 x1 x2 x3
  by_cases hm : M ≤ 4096
  rotate_left
  · have HL := hidden (show ¬ (cG v ≤ 4096 ∧ cN 16 v ≤ 4096 ∧ cD 16 v ≤ 4096) by rw [HcG.out, HcN.out, HcD.out]; intro hx; exact hm (hMi.2 (by omega)))
    have dm : decide (M ≤ 4096) = false := decide_eq_false hm
    clear hMi
    go_wp2_with fail
    refine Calls.mono (need_bad 3 _) ?_
    rintro e w4 ⟨rfl, rfl⟩
    exact ⟨rfl, T5.out, .inl ⟨rfl, ⟨_, HF5.out.2.1⟩, HL.out⟩⟩
  have hle : G ≤ 4096 ∧ N ≤ 4096 ∧ D ≤ 4096 := by have := hMi.1 hm; omega
  have HL := hidden (show cG v ≤ 4096 ∧ cN 16 v ≤ 4096 ∧ cD 16 v ≤ 4096 by rw [HcG.out, HcN.out, HcD.out]; exact hle)
  obtain ⟨hl1, hl2, hl3⟩ := hle
  have dm : decide (M ≤ 4096) = true := decide_eq_true hm
  clear hMi hm
  obtain ⟨a, len, cap, qr, hlen⟩ := HF5.out.rd
  have HLE := hidden hlen
  clear hlen
  have HS := hidden (has a len cap (4 * (G + N + D)) w3)
  rw [show ((4 * (G + N + D) : Nat) : Int) = 4 * ((G : Int) + (N : Int) + (D : Int)) by omega] at HS
  go_wp2_with fail
  refine Calls.mono (need_ok 3 _) ?_
  rintro e w4 ⟨rfl, rfl⟩
  go_wp2_with fail
  refine Calls.mono HS.out ?_
  rintro e w4 ⟨rfl, rfl⟩
  by_cases hh : 4 * (G + N + D) ≤ len
  rotate_left
  · rw [decide_eq_false hh]
    have HH := hidden (show v.length < 16 + 4 * (cG v + cN 16 v + cD 16 v) by rw [HcG.out, HcN.out, HcD.out]; have := HLE.out; omega)
    go_wp2_with fail
    refine Calls.mono (need_bad 61 _) ?_
    rintro e w4 ⟨rfl, rfl⟩
    exact ⟨rfl, T5.out, .inr (.inl ⟨rfl, ⟨_, HF5.out.2.1⟩, HL.out, HH.out⟩)⟩
  rw [decide_eq_true hh]
  have hvl : 16 + 4 * (G + N + D) ≤ v.length := by have := HLE.out; omega
  clear HS qr hh dm hM
  have GA := hidden (gaps base w0 w3 B 16 G v HF5.out.1 hl1 (by omega))
  go_wp2_with fail
  refine Calls.mono (need_ok 61 _) ?_
  rintro e w4 ⟨rfl, rfl⟩
  go_wp2_with fail
  refine Calls.mono GA.out ?_
  rintro e w4 ⟨u1, rfl, o1, r4, g4⟩
  obtain ⟨a1, k1, rfl, hg1⟩ := gaps_own HBY.out hl1 o1
  have f6 := HF5.out.read r4 g4
  have hg1' := hg1.mono HF5.out.2.2.2.2.2.2.2
  have q10 := f6.2.1.c10
  have fr10 := f6.2.1.fr 10
  have f7 := f6.store (f6.2.1.s10 a1 G k1 (gapsAt v 16 G)) (fun h => ⟨hg1', h.2⟩)
  have T7 := hidden (T5.out.trans ((Tch.ofB (C := C) g4).trans (Tch.ofC (gr_set w4 C 10 (.slice a1 G k1)))))
  have GB := hidden (gaps base w0 _ B (16 + 4 * G) N v f7.1 hl2 (by omega))
  have HF7 := hidden f7
  clear o1 r4 g4 f6 f7 hg1 hg1' GA HF5 T5
  go_wp2_with fail
  refine Calls.mono GB.out ?_
  rintro e w5 ⟨u2, rfl, o2, r5, g5⟩
  obtain ⟨a2, k2, rfl, hg2⟩ := gaps_own HBY.out hl2 o2
  clear q10 fr10
  have f8 := HF7.out.read r5 g5
  have hg2' := hg2.mono HF7.out.2.2.2.2.2.2.2
  have q11 := f8.2.1.c11
  have fr11 := f8.2.1.fr 11
  have f9 := f8.store (f8.2.1.s11 a2 N k2 (gapsAt v (16 + 4 * G) N)) (fun h => ⟨h.1, hg2', h.2.2⟩)
  have T9 := hidden (T7.out.trans ((Tch.ofB (C := C) g5).trans (Tch.ofC (gr_set w5 C 11 (.slice a2 N k2)))))
  have GC := hidden (foursR base w0 _ B (16 + 4 * G + 4 * N) D v f9.1 hl3 (by omega))
  have HF9 := hidden f9
  clear o2 r5 g5 f8 f9 hg2 hg2' GB HF7 T7
  go_wp2_with fail
  refine Calls.mono GC.out ?_
  rintro e w6 ⟨u3, rfl, o3, r6, g6⟩
  obtain ⟨a3, k3, rfl, hg3⟩ := fours_own HBY.out hl3 o3
  clear q11 fr11
  have f10 := HF9.out.read r6 g6
  have hg3' := hg3.mono HF9.out.2.2.2.2.2.2.2
  have q12 := f10.2.1.c12
  have fr12 := f10.2.1.fr 12
  have f11 := f10.store (f10.2.1.s12 a3 D k3 (foursAt v (16 + 4 * G + 4 * N) D)) (fun h => ⟨h.1, h.2.1, hg3', h.2.2.2⟩)
  have T11 := hidden (T9.out.trans ((Tch.ofB (C := C) g6).trans (Tch.ofC (gr_set w6 C 12 (.slice a3 D k3)))))
  have HF11 := hidden f11
  clear o3 r6 g6 f10 f11 hg3 hg3' GC HF9 T9
  go_wp2
  go_end0
  have HQ : 16 + 4 * G + 4 * N + 4 * D = 16 + 4 * (cG v + cN 16 v + cD 16 v) := by rw [HcG.out, HcN.out, HcD.out]; omega
  have HF12 := HF11.out
  rw [HQ] at HF12
  exact ⟨T11.out, .inr (.inr ⟨rfl, HL.out, _, HF12, by unfold repV; rw [HcG.out, HcN.out, HcD.out]; rfl⟩)⟩
end Go.Proofs.Ytifdkpifambhaaa.Chu
