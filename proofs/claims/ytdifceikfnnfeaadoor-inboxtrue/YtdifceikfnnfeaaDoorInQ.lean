/-
  The law's box that is alive; a box that nobody made.
  Conditions: as at each lemma.
-/
import Derived.Test.YtdifceikfnnfeaaDoorInO
namespace Go.Proofs.YtdifceikfnnfeaaDoor.Sp.Inb
open Go.ChangeShapes Go.WideShapes Go.ChangeAt Go.RowKit
open Ba (hidden Has cell_lt heap_lt)
set_option linter.unusedVariables false
set_option maxRecDepth 20000
def s0 : St := newS 1 200 true
def s1 : St := comeS 3 s0
def s2 : St := comeS 4 s1
def s3 : St := fixAll [4] s2
theorem al_1 : comeB 3 s0 = true ∧ comeE 3 s0 = 0 := by decide
theorem al_2 : comeB 4 s1 = true ∧ comeE 4 s1 = 0 := by decide
theorem al_3 : fixN [4] s2 = 1 := by decide
theorem al_4 : s3.nr = true ∧ s3.c = 0 ∧ s3.D = [] := by decide
theorem al_5 : gapsR s3 8 = [(3, 3)] ∧ nrR s3 8 = [(4, 4)] := by decide
set_option maxHeartbeats 4000000 in
theorem alive (w : World) (hT : Tab w) : Calls Tryd.prog 10 #[] w fun e w' => e = .returned (.bool true) ∧ Below w.heap.size w w' := by
  have k0 : Ok 0 s0 := new_ok 1 200 true (by decide) (by decide)
  have k1 : Ok 1 s1 := come_ok k0 (by decide)
  have k2 : Ok 2 s2 := come_ok k1 (by decide)
  have k3 : Ok 2 s3 := fixAll_ok k2
  have NB : Hid (Calls Tryd.prog 8 #[.int .u32 1, .int .i64 200, .bool true] w fun e w' => ∃ b bc bf, e = .returned (.tuple #[.pointer (some ⟨b, 0, none⟩), .int .i64 0]) ∧ Cd w.heap.size w' b bc bf (.slice none 0 0) s0 ∧ Below w.heap.size w w') := (new_box 1 (by decide) 200 true w hT).mono (by
    rintro e w' (⟨h, _⟩ | ⟨_, b, bc, bf, rfl, h1, h2⟩)
    · exact absurd (by decide) h
    · exact ⟨b, bc, bf, rfl, h1, h2⟩)
  go_enter Tryd.func10, Tryd.ntmps10
  go_wp2_with fail
  refine Calls.mono NB.out ?_
  rintro e w1 ⟨b, bc, bf, rfl, hC1, hB1⟩
  have C3 := hidden (Come_ hC1 k0 3 (by decide))
  rw [show comeB 3 s0 = true from al_1.1, show comeE 3 s0 = 0 from al_1.2] at C3
  have HB1 := hidden hB1
  have HG1 := hidden (fun k hk => hC1.fc_ge k hk)
  clear hC1 hB1
  go_wp2_with fail
  refine Calls.mono C3.out ?_
  rintro e w2 ⟨v2, rfl, hC2, hM2, hN2⟩
  have HB2 := hidden (HB1.out.trans (hM2.below HB1.out.size HG1.out))
  have C4 := hidden (Come_ (s := s1) hC2 k1 4 (by decide))
  rw [show comeB 4 s1 = true from al_2.1, show comeE 4 s1 = 0 from al_2.2] at C4
  have HG2 := hidden (fun k hk => hC2.fc_ge k hk)
  clear hC2 hM2 hN2 C3 NB
  go_wp2_with fail
  refine Calls.mono C4.out ?_
  rintro e w3 ⟨v3, rfl, hC3, hM3, hN3⟩
  have HB3 := hidden (HB2.out.trans (hM3.below HB2.out.size HG2.out))
  have hBa := below_new w3 (.cells #[.int .u32 4] 22)
  have hC4 : Cd w.heap.size (w3.alloc (.cells #[.int .u32 4] 22)) b bc bf v3 s2 := hC3.later hBa
  have HG3 := hidden (fun k hk => hC4.fc_ge k hk)
  have hnr : Has (w3.alloc (.cells #[.int .u32 4] 22)) w3.heap.size #[.int .u32 4] 22 := Has.new w3 #[.int .u32 4] 22
  have FX := hidden (Fix_ hC4 k2 [4] (by simp) (by decide) (some ⟨w3.heap.size, 0, none⟩) 1 (fun w' hm => by
    have h9 := hm.has hnr (fun hk => by
      rcases hk with hk | hk | hk | hk
      · obtain ⟨z, hq, _⟩ := hC3.q; have := hq.lt; omega
      · have := hC3.a.lt; omega
      · have := hC3.f.lt; omega
      · have := own_old hC3.d hk; omega)
    refine ⟨by decide, _, _, rfl, .inr ⟨w3.heap.size, 0, rfl, h9.lt, fun j hj => ?_⟩⟩
    obtain rfl : j = 0 := by simpa using hj
    exact h9.cell 0 rfl))
  rw [al_3] at FX
  have HBa := hidden (HB3.out.trans (hBa.mono HB3.out.size))
  clear hC3 hM3 hN3 hC4 hnr hBa C4
  go_wp2_with fail
  refine Calls.mono FX.out ?_
  rintro e w4 ⟨rfl, hC5, hM4⟩
  have HB4 := hidden (HBa.out.trans (hM4.below HBa.out.size HG3.out))
  have HG4 := hidden (fun k hk => hC5.fc_ge k hk)
  have RP := hidden (Report_ok (s := s3) hC5 k3 9000 8 (by decide))
  clear hC5 hM4 FX
  go_wp2_with fail
  refine Calls.mono RP.out ?_
  rintro e w5 ⟨V, rfl, ⟨a1, n1, c1, a2, n2, c2, a3, n3, c3, rfl, o1, o2, o3⟩, hC6, hM5⟩
  have hB5 := HB4.out.trans (hM5.below HB4.out.size HG4.out)
  rw [al_5.1] at o1
  rw [al_5.2] at o2
  obtain ⟨_, _, e1⟩ := Ba.own_len o1
  cases e1
  obtain ⟨g, c2', e2, _, hg2, _⟩ := Ba.own_some o2 (by decide)
  cases e2
  have q0 := o2.cellAt (g := g) 0 (by decide)
  have q1 := o2.cellAt (g := g) 1 (by decide)
  have hBn := below_new w5 (.cells zch 46)
  have hX : Ow.Own w5 (w5.alloc (.cells zch 46)) [(w5.heap.size, zch, 46)] := (Ow.Own.refl w5).alloc zch 46
  have f2 := store_ch (kind := if s3.nr = true then 16 else 3) (c := s3.c) (win := 9000) (a1 := a1) (a2 := some ⟨g, 0, none⟩) (a3 := a3) (n1 := 1) (n2 := 1) (n3 := n3) (k1 := c1) (k2 := c2) (k3 := c3) (hX.has (.head _))
  have hY := hX.row (chv (if s3.nr = true then 16 else 3) s3.c 9000 (.slice a1 1 c1) (.slice (some ⟨g, 0, none⟩) 1 c2) (.slice a3 n3 c3)) (by simp)
  obtain ⟨Y, eY⟩ : ∃ Y, (w5.alloc (.cells zch 46)).setRow w5.heap.size (chv (if s3.nr = true then 16 else 3) s3.c 9000 (.slice a1 1 c1) (.slice (some ⟨g, 0, none⟩) 1 c2) (.slice a3 n3 c3)) = Y := ⟨_, rfl⟩
  rw [eY] at f2 hY
  obtain ⟨u0, u1, u2, u7, u10, u11, u12, u13, u14⟩ := ch_cells (hY.has (.head _))
  have p0 : Y.cell? ⟨g, 0, none⟩ = some (.int .u16 4) := (hY.below.cell (p := ⟨g, 0, none⟩) hg2).trans q0
  have p1 : Y.cell? ⟨g, 1, none⟩ = some (.int .u16 4) := (hY.below.cell (p := ⟨g, 1, none⟩) hg2).trans q1
  rw [show (if s3.nr = true then (16 : Int) else 3) = 16 by decide] at u0
  rw [show (s3.c : Int) = 0 by decide] at u2
  have F2 := hidden f2
  have FN := hidden (hB5.trans (hY.below.mono hB5.size))
  clear hC6 hM5 hB5 o1 o2 o3 q0 q1 hBn hX f2 hY eY RP
  go_wp2_with (refine wpList_stA rfl 46 _ _ rfl rfl rfl rfl F2.out ?_)
  go_ret
  exact ⟨rfl, FN.out⟩
section
variable {w : World} {p : Option Addr}
theorem n_come (h : Un w p) (t : Int) : Calls Tryd.prog 23 #[.pointer p, .int .u32 t] w fun e w' => e = .returned (.tuple #[.bool false, .int .i64 4]) ∧ w = w' := by
  have UM := hidden (unmade_no h)
  clear h
  go_enter Tryd.func23, Tryd.ntmps23
  go_wp2_with fail
  refine Calls.mono UM.out ?_
  rintro e w' ⟨rfl, rfl⟩
  go_wp2
  go_ret2
  exact ⟨rfl, rfl⟩
theorem n_due (h : Un w p) : Calls Tryd.prog 21 #[.pointer p] w fun e w' => e = .returned (.tuple #[.int .i64 0, .bool false]) ∧ w = w' := by
  have UM := hidden (unmade_no h)
  clear h
  go_enter Tryd.func21, Tryd.ntmps21
  go_wp2_with fail
  refine Calls.mono UM.out ?_
  rintro e w' ⟨rfl, rfl⟩
  go_wp2
  go_ret2
  exact ⟨rfl, rfl⟩
theorem n_heard (h : Un w p) (t : Int) : Calls Tryd.prog 20 #[.pointer p, .int .i64 t] w fun e w' => e = .returned (.int .i64 4) ∧ w = w' := by
  have UM := hidden (unmade_no h)
  clear h
  go_enter Tryd.func20, Tryd.ntmps20
  go_wp2_with fail
  refine Calls.mono UM.out ?_
  rintro e w' ⟨rfl, rfl⟩
  go_wp2
  go_ret
  exact ⟨rfl, rfl⟩
theorem n_drop (h : Un w p) (t : Int) : Calls Tryd.prog 31 #[.pointer p, .int .u32 t] w fun e w' => e = .returned (.bool false) ∧ w = w' := by
  have UM := hidden (unmade_no h)
  clear h
  go_enter Tryd.func31, Tryd.ntmps31
  go_wp2_with fail
  refine Calls.mono UM.out ?_
  rintro e w' ⟨rfl, rfl⟩
  go_wp2
  go_ret
  exact ⟨rfl, rfl⟩
theorem n_has (h : Un w p) (t : Int) : Calls Tryd.prog 30 #[.pointer p, .int .u32 t] w fun e w' => e = .returned (.bool false) ∧ w = w' := by
  have UM := hidden (unmade_no h)
  clear h
  go_enter Tryd.func30, Tryd.ntmps30
  go_wp2_with fail
  refine Calls.mono UM.out ?_
  rintro e w' ⟨rfl, rfl⟩
  go_wp2
  go_ret
  exact ⟨rfl, rfl⟩
theorem n_cum (h : Un w p) : Calls Tryd.prog 16 #[.pointer p] w fun e w' => e = .returned (.int .u32 0) ∧ w = w' := by
  have UM := hidden (unmade_no h)
  clear h
  go_enter Tryd.func16, Tryd.ntmps16
  go_wp2_with fail
  refine Calls.mono UM.out ?_
  rintro e w' ⟨rfl, rfl⟩
  go_wp2
  go_ret
  exact ⟨rfl, rfl⟩
theorem n_fix (h : Un w p) (v : Value) : Calls Tryd.prog 25 #[.pointer p, v] w fun e w' => e = .returned (.int .i64 0) ∧ w = w' := by
  have UM := hidden (unmade_no h)
  clear h
  go_enter Tryd.func25, Tryd.ntmps25
  go_wp2_with fail
  refine Calls.mono UM.out ?_
  rintro e w' ⟨rfl, rfl⟩
  go_wp2
  go_ret
  exact ⟨rfl, rfl⟩
theorem n_above (h : Un w p) : Calls Tryd.prog 19 #[.pointer p] w fun e w' => e = .returned (.slice none 0 0) ∧ w = w' := by
  have UM := hidden (unmade_no h)
  clear h
  go_enter Tryd.func19, Tryd.ntmps19
  go_wp2_with fail
  refine Calls.mono UM.out ?_
  rintro e w' ⟨rfl, rfl⟩
  go_wp2
  go_ret
  exact ⟨rfl, rfl⟩
theorem n_fixed (h : Un w p) : Calls Tryd.prog 32 #[.pointer p] w fun e w' => e = .returned (.slice none 0 0) ∧ w = w' := by
  have UM := hidden (unmade_no h)
  clear h
  go_enter Tryd.func32, Tryd.ntmps32
  go_wp2_with fail
  refine Calls.mono UM.out ?_
  rintro e w' ⟨rfl, rfl⟩
  go_wp2
  go_ret
  exact ⟨rfl, rfl⟩
theorem n_dups (h : Un w p) : Calls Tryd.prog 33 #[.pointer p] w fun e w' => e = .returned (.slice none 0 0) ∧ w = w' := by
  have UM := hidden (unmade_no h)
  clear h
  go_enter Tryd.func33, Tryd.ntmps33
  go_wp2_with fail
  refine Calls.mono UM.out ?_
  rintro e w' ⟨rfl, rfl⟩
  go_wp2
  go_ret
  exact ⟨rfl, rfl⟩
theorem n_report (h : Un w p) (win most : Int) : Calls Tryd.prog 14 #[.pointer p, .int .u32 win, .int .i64 most] w fun e w' => e = .returned (.tuple #[.agg zch, .int .i64 4]) ∧ Below w.heap.size w w' := by
  obtain ⟨W, hW⟩ : ∃ W, w.alloc (.cells (chv 0 0 0 zsl zsl zsl) 46) = W := ⟨_, rfl⟩
  have hB : Below w.heap.size w W := by rw [← hW]; exact below_new w _
  have hR0 : Has W w.heap.size zch 46 := by rw [← hW]; exact Has.new w _ _
  have UM := hidden (unmade_no (h.later hB))
  have hO : Ow.Own w W [(w.heap.size, zch, 46)] := ⟨hB, fun x hx => by
    obtain rfl := List.mem_singleton.1 hx
    exact ⟨Nat.le_refl _, hR0⟩⟩
  have F2 := hidden (store_ch (kind := 0) (c := 0) (win := 0) (a1 := none) (a2 := none) (a3 := none) (n1 := 0) (n2 := 0) (n3 := 0) (k1 := 0) (k2 := 0) (k3 := 0) hR0)
  have hT := hO.row (chv 0 0 0 zsl zsl zsl) (by simp)
  have F3 := hidden (hT.has (.head _))
  have F4 := hidden hT.below
  unfold chv zsl at hW
  clear h hB hR0 hO hT
  go_enter Tryd.func14, Tryd.ntmps14
  go_wp2_with fail
  refine Calls.mono UM.out ?_
  rintro e w' ⟨rfl, rfl⟩
  go_wp2_with (refine wpList_stA rfl 46 _ _ rfl rfl rfl rfl F2.out ?_)
  exact bodyPost_ret (res_ch rfl rfl F3.out) rfl ⟨rfl, F4.out⟩
end
end Go.Proofs.YtdifceikfnnfeaaDoor.Sp.Inb
