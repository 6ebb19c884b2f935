/-
  Chunks' bytes, as package chunk makes them: numbers, lists, whole chunks.
  Conditions: the numbers lie within their kinds, the cells hold them.
-/
import Derived.Test.YtifdkpifambhaaaChF
namespace Go.Proofs.Ytifdkpifambhaaa.Chu
open Go.ChangeShapes Go.WideShapes Go.ChangeAt Go.RowKit
open Par (hidden Bytes Row Prm Prms cell_lt Cap cells_new)
set_option linter.unusedVariables false
attribute [local go_sem ↓] execOp_ld execOp_bx execOp_st
attribute [local go_sem] run_box cc_0 cc_1 cc_2 cc_3 cc_4 cc_5 cc_6 cc_7 cc_8 cc_9 cc_10 cc_11 cc_12 cc_13 cc_14

theorem Bx.grown {w w' : World} {B g : Nat} {c : Ck} (h : Bx w B c) (hg : w.grownBy w' (some g)) (hne : B ≠ g) : Bx w' B c := by
  obtain ⟨a1, a2, a3, a4, a5⟩ := hg
  exact (a5 B h.lt (by simpa using hne)).trans h
theorem cap_lt {w : World} {B g cap : Nat} {xs : List Int} (h : Cap w B g cap xs) : g < w.heap.size := by obtain ⟨cur, h1, _⟩ := h; exact (Array.getElem?_eq_some_iff.1 h1).1
theorem cap_alloc {w : World} {B g cap : Nat} {xs : List Int} (h : Cap w B g cap xs) (o : Obj) : Cap (w.alloc o) B g cap xs := h.later ((Below.refl _ _).alloc (Nat.le_refl _) _)
theorem ln_new (W : World) (c : Array Value) (t : TypeId) (g : Nat) (hg : g < W.heap.size) : Ln g (W.alloc (.cells c t)) (some ⟨W.heap.size, 0, none⟩) c.toList := by
  refine .inr ⟨_, 0, rfl, by omega, fun j u hj => ?_⟩
  have h : (W.alloc (.cells c t)).heap[W.heap.size]? = some (.cells c t) := heap_alloc_new W _
  rw [Nat.zero_add]
  simp only [World.cell?, h]
  simpa using hj
/-- so far: the row, and what has not been touched -/
def Wr (w : World) (B g cap : Nat) (w' : World) (zs : List Int) : Prop := Cap w' B g cap zs ∧ w.grownBy w' (some g)
theorem Wr.alloc {w w' : World} {B g cap : Nat} {zs : List Int} (h : Wr w B g cap w' zs) (o : Obj) : Wr w B g cap (w'.alloc o) zs := ⟨cap_alloc h.1 o, gr_trans h.2 (World.grownBy_alloc _ _ _)⟩
theorem Wr.trans {w w' w2 : World} {B g cap : Nat} {zs ys : List Int} (h : Wr w B g cap w' zs) (h2 : Wr w' B g cap w2 ys) : Wr w B g cap w2 ys := ⟨h2.1, gr_trans h.2 h2.2⟩
/-- a new row of numbers is appended -/
theorem newTwos {w W : World} {B g cap n : Nat} {zs : List Int} (h : Wr w B g cap W zs) (hn : zs.length = n) (xs : List Int) (m : Nat) (hm : xs.length = m) (hx : ∀ x ∈ xs, 0 ≤ x ∧ x < 65536) (hroom : n + 2 * m ≤ cap) :
    Calls Try.prog 46 #[.slice (some ⟨g, 0, none⟩) n cap, .slice (some ⟨W.heap.size, 0, none⟩) m m] (W.alloc (.cells (xs.map (.int .u16)).toArray 32)) fun e w' => e = .returned (.slice (some ⟨g, 0, none⟩) (n + 2 * m) cap) ∧ Wr w B g cap w' (zs ++ twos xs) :=
  (appendTwos _ B g cap n zs _ m m xs (cap_alloc h.1 _) hn (ln_new W _ _ g (cap_lt h.1)) hm hx hroom).mono (by
    rintro e w' ⟨rfl, h1, h2⟩
    exact ⟨rfl, (h.alloc _).trans ⟨h1, h2⟩⟩)
theorem newFours {w W : World} {B g cap n : Nat} {zs : List Int} (h : Wr w B g cap W zs) (hn : zs.length = n) (xs : List Int) (m : Nat) (hm : xs.length = m) (hx : ∀ x ∈ xs, 0 ≤ x ∧ x < 4294967296) (hroom : n + 4 * m ≤ cap) :
    Calls Try.prog 67 #[.slice (some ⟨g, 0, none⟩) n cap, .slice (some ⟨W.heap.size, 0, none⟩) m m] (W.alloc (.cells (xs.map (.int .u32)).toArray 31)) fun e w' => e = .returned (.slice (some ⟨g, 0, none⟩) (n + 4 * m) cap) ∧ Wr w B g cap w' (zs ++ fours xs) :=
  (appendFours _ B g cap n zs _ m m xs (cap_alloc h.1 _) hn (ln_new W _ _ g (cap_lt h.1)) hm hx hroom).mono (by
    rintro e w' ⟨rfl, h1, h2⟩
    exact ⟨rfl, (h.alloc _).trans ⟨h1, h2⟩⟩)
/-- gaps as bytes -/
def gbytes (gs : List (Int × Int)) : List Int := gs.flatMap fun g => twos [g.1, g.2]
theorem gbytes_len (gs : List (Int × Int)) : (gbytes gs).length = 4 * gs.length := by
  induction gs with
  | nil => rfl
  | cons x gs ih => rw [show gbytes (x :: gs) = twos [x.1, x.2] ++ gbytes gs from rfl, List.length_append, ih, twos_len]; simp; omega
theorem gbytes_snoc {gs : List (Int × Int)} {k : Nat} {x : Int × Int} (h : gs[k]? = some x) : gbytes (gs.take (k + 1)) = gbytes (gs.take k) ++ twos [x.1, x.2] := by
  rw [List.take_add_one, h]; unfold gbytes; rw [List.flatMap_append]; simp
theorem two_in {a b : Int} (ha : 0 ≤ a ∧ a < 65536) (hb : 0 ≤ b ∧ b < 65536) : ∀ x ∈ [a, b], 0 ≤ x ∧ x < 65536 := by
  intro x hx; simp only [List.mem_cons, List.not_mem_nil, or_false] at hx; rcases hx with rfl | rfl
  · exact ha
  · exact hb
theorem appendGaps (w : World) (B g cap n : Nat) (zs : List Int) (a : Option Addr) (m c : Nat) (gs : List (Int × Int)) (hC : Cap w B g cap zs) (hn : zs.length = n) (hr : Gaps 0 w a m gs) (hne : 0 < m → ∀ b off, a = some ⟨b, off, none⟩ → b ≠ g) (hroom : n + 4 * m ≤ cap) :
    Calls Try.prog 68 #[.slice (some ⟨g, 0, none⟩) n cap, .slice a m c] w fun e w' => e = .returned (.slice (some ⟨g, 0, none⟩) (n + 4 * m) cap) ∧ Cap w' B g cap (zs ++ gbytes gs) ∧ w.grownBy w' (some g) := by
  have hcl : cap ≤ 140737488355328 := by obtain ⟨_, _, _, _, _, h, _⟩ := hC; exact h
  have HC := hidden hC
  have HR := hidden hr
  have HN := hidden hn
  have HNE := hidden hne
  have HL := hidden hr.1
  clear hC hr hn hne
  go_enter Try.func68, Try.ntmps68
  go_wp2_with fail
  go_loopw [0, 9] (fun v i wr => ∃ k : Nat, k ≤ m ∧ i = .int .i64 k ∧ v = .slice (some ⟨g, 0, none⟩) (n + 4 * k) cap ∧ Wr w B g cap wr (zs ++ gbytes (gs.take k))) (fun _ i _ => m - (intOf i).toNat)
  case atStart => exact ⟨0, Nat.zero_le _, rfl, rfl, by simpa [gbytes] using HC.out, World.grownBy.refl _ _⟩
  case round =>
    obtain ⟨k, hk, rfl, rfl, hW⟩ := hrel
    rcases Nat.lt_or_ge k m with hlt | hge
    · obtain ⟨b, off, s, e, rfl, hgk, hc1, hc2, hs, he⟩ := HR.out.get hlt
      have hbg := HNE.out (by omega) b off rfl
      have d1 := hW.2.cell hc1 (by simpa using hbg)
      have d2 := hW.2.cell hc2 (by simpa using hbg)
      have HS := hidden (gbytes_snoc hgk)
      have HLN := hidden (show (zs ++ gbytes (gs.take k)).length = n + 4 * k by rw [List.length_append, HN.out, gbytes_len, List.length_take, HL.out, Nat.min_eq_left hk])
      have T := hidden (newTwos (hW.alloc (.cells #[.int .u16 s, .int .u16 e] 69)) HLN.out [s, e] 2 rfl (two_in hs he) (by omega))
      clear hW hgk hc1 hc2
      simp only [World.size_alloc] at T
      go_wp2_with fail
      refine Calls.mono T.out ?_
      rintro e' w2 ⟨rfl, hW2⟩
      have HW2 := hidden hW2
      clear hW2 T d1 d2
      go_wp2
      go_roundw
      case rel => exact ⟨k + 1, by omega, by go_num, by rw [show n + 4 * (k + 1) = n + 4 * k + 2 * 2 by omega], by rw [HS.out, ← List.append_assoc]; exact HW2.out⟩
      case measure => simp [intOf]; omega
    · obtain rfl : k = m := by omega
      rw [List.take_of_length_le (by rw [HL.out]; omega)] at hW
      have HW := hidden hW
      clear hW
      go_wp2
      go_ret
      exact ⟨rfl, HW.out⟩
/-- the numbers of a value, as bytes -/
def numB (c : Ck) : List Int :=
  if c.kind = 0 then fours [c.tsn] ++ twos [c.stream, c.ssn] ++ fours [c.proto]
  else if c.kind = 1 ∨ c.kind = 2 then fours [c.tag, c.win] ++ twos [c.out, c.inn] ++ fours [c.tsn]
  else if c.kind = 3 then fours [c.tsn, c.win] ++ twos [(c.gl : Int), (c.dl : Int)]
  else if c.kind = 16 then fours [c.tsn, c.win] ++ twos [(c.gl : Int), (c.nl : Int), (c.dl : Int), 0]
  else if c.kind = 7 then fours [c.tsn] else []
theorem one32 {a : Int} (ha : 0 ≤ a ∧ a < 4294967296) : ∀ x ∈ [a], 0 ≤ x ∧ x < 4294967296 := by
  intro x hx; simp only [List.mem_cons, List.not_mem_nil, or_false] at hx; subst hx; exact ha
theorem two32 {a b : Int} (ha : 0 ≤ a ∧ a < 4294967296) (hb : 0 ≤ b ∧ b < 4294967296) : ∀ x ∈ [a, b], 0 ≤ x ∧ x < 4294967296 := by
  intro x hx; simp only [List.mem_cons, List.not_mem_nil, or_false] at hx; rcases hx with rfl | rfl
  · exact ha
  · exact hb
theorem four_in {a b c d : Int} (ha : 0 ≤ a ∧ a < 65536) (hb : 0 ≤ b ∧ b < 65536) (hc : 0 ≤ c ∧ c < 65536) (hd : 0 ≤ d ∧ d < 65536) : ∀ x ∈ [a, b, c, d], 0 ≤ x ∧ x < 65536 := by
  intro x hx; simp only [List.mem_cons, List.not_mem_nil, or_false] at hx; rcases hx with rfl | rfl | rfl | rfl
  · exact ha
  · exact hb
  · exact hc
  · exact hd
theorem nums_of {c : Ck} (h : Nums c) : (0 ≤ c.tsn ∧ c.tsn < 4294967296) ∧ (0 ≤ c.stream ∧ c.stream < 65536) ∧ (0 ≤ c.ssn ∧ c.ssn < 65536) ∧ (0 ≤ c.proto ∧ c.proto < 4294967296) ∧ (0 ≤ c.tag ∧ c.tag < 4294967296) ∧ (0 ≤ c.win ∧ c.win < 4294967296) ∧ (0 ≤ c.out ∧ c.out < 65536) ∧ (0 ≤ c.inn ∧ c.inn < 65536) := ⟨h.2.2.1, h.2.2.2.1, h.2.2.2.2.1, h.2.2.2.2.2.1, h.2.2.2.2.2.2.1, h.2.2.2.2.2.2.2.1, h.2.2.2.2.2.2.2.2.1, h.2.2.2.2.2.2.2.2.2⟩
set_option maxHeartbeats 4000000 in
theorem appendNumbers (w : World) (B g cap n : Nat) (zs : List Int) (c : Ck) (hC : Cap w B g cap zs) (hn : zs.length = n) (hnum : Nums c) (hg : c.gl ≤ 4096) (hr : c.nl ≤ 4096) (hd : c.dl ≤ 4096) (hroom : n + nb c.kind ≤ cap) :
    Calls Try.prog 47 #[.slice (some ⟨g, 0, none⟩) n cap, cv c] w fun e w' => e = .returned (.slice (some ⟨g, 0, none⟩) (n + nb c.kind) cap) ∧ Wr w B g cap w' (zs ++ numB c) := by
  have hcl : cap ≤ 140737488355328 := by obtain ⟨_, _, _, _, _, h, _⟩ := hC; exact h
  obtain ⟨n2, n3, n4, n5, n6, n7, n8, n9⟩ := nums_of hnum
  have hgw := cap_lt hC
  have HWA := hidden ((show Wr w B g cap w zs from ⟨hC, World.grownBy.refl _ _⟩).alloc (.cells (cc c) 37))
  have HW0 := hidden (show Wr (w.alloc (.cells (cc c) 37)) B g cap (w.alloc (.cells (cc c) 37)) zs from ⟨HWA.out.1, World.grownBy.refl _ _⟩)
  have H0 := hidden (Bx.new w c)
  have HNE := hidden (show w.heap.size ≠ g by omega)
  have hw16 : ∀ x : Int, IntKind.u16.wrap x = x % 65536 := fun _ => rfl
  have u1 : (c.gl : Int) % 65536 = c.gl := by omega
  have u2 : (c.nl : Int) % 65536 = c.nl := by omega
  have u3 : (c.dl : Int) % 65536 = c.dl := by omega
  have k0 := H0.out.c0
  clear hC hnum hgw
  go_enter Try.func47, Try.ntmps47
  rcases kind_cases c.kind with hk | hk | hk | hk | hk | hk | hk | hk | hk | hk | hk | hk | hk | hk | hk
  · have HM := hidden (show nb c.kind = 12 by rw [hk]; rfl)
    have HV := hidden (show numB c = fours [c.tsn] ++ twos [c.stream, c.ssn] ++ fours [c.proto] by unfold numB; simp [hk])
    rw [HM.out] at hroom
    have k2 := H0.out.c2
    have T := hidden (newFours HW0.out hn [c.tsn] 1 rfl (one32 n2) (by omega))
    simp only [World.size_alloc] at T
    go_wp2_with fail
    refine Calls.mono T.out ?_
    rintro e' w1 ⟨rfl, hW⟩
    have HW1 := hidden hW
    have H1 := hidden (H0.out.grown HW1.out.2 HNE.out)
    clear hW T k2 k0
    have hn1 : (zs ++ fours [c.tsn]).length = n + 4 := by simp [fours_len, hn]
    have k3 := H1.out.c3
    have k4 := H1.out.c4
    have T := hidden (newTwos HW1.out hn1 [c.stream, c.ssn] 2 rfl (two_in n3 n4) (by omega))
    go_wp2_with fail
    refine Calls.mono T.out ?_
    rintro e' w2 ⟨rfl, hW⟩
    have HW2 := hidden hW
    have H2 := hidden (H0.out.grown HW2.out.2 HNE.out)
    clear hW T k3 k4
    have hn2 : ((zs ++ fours [c.tsn]) ++ twos [c.stream, c.ssn]).length = n + 8 := by simp [twos_len, fours_len, hn]
    have k5 := H2.out.c5
    have T := hidden (newFours HW2.out hn2 [c.proto] 1 rfl (one32 n5) (by omega))
    go_wp2_with fail
    refine Calls.mono T.out ?_
    rintro e' w3 ⟨rfl, hW⟩
    have HW3 := hidden hW
    have H3 := hidden (H0.out.grown HW3.out.2 HNE.out)
    clear hW T k5
    have hn3 : (((zs ++ fours [c.tsn]) ++ twos [c.stream, c.ssn]) ++ fours [c.proto]).length = n + 12 := by simp [twos_len, fours_len, hn]
    go_wp2
    go_ret
    exact ⟨by rw [HM.out]; rfl, by rw [HV.out]; simpa only [List.append_assoc, List.append_nil] using HWA.out.trans HW3.out⟩
  · have HM := hidden (show nb c.kind = 16 by rw [hk]; rfl)
    have HV := hidden (show numB c = fours [c.tag, c.win] ++ twos [c.out, c.inn] ++ fours [c.tsn] by unfold numB; simp [hk])
    rw [HM.out] at hroom
    have k6 := H0.out.c6
    have k7 := H0.out.c7
    have T := hidden (newFours HW0.out hn [c.tag, c.win] 2 rfl (two32 n6 n7) (by omega))
    simp only [World.size_alloc] at T
    go_wp2_with fail
    refine Calls.mono T.out ?_
    rintro e' w1 ⟨rfl, hW⟩
    have HW1 := hidden hW
    have H1 := hidden (H0.out.grown HW1.out.2 HNE.out)
    clear hW T k6 k7 k0
    have hn1 : (zs ++ fours [c.tag, c.win]).length = n + 8 := by simp [fours_len, hn]
    have k8 := H1.out.c8
    have k9 := H1.out.c9
    have T := hidden (newTwos HW1.out hn1 [c.out, c.inn] 2 rfl (two_in n8 n9) (by omega))
    go_wp2_with fail
    refine Calls.mono T.out ?_
    rintro e' w2 ⟨rfl, hW⟩
    have HW2 := hidden hW
    have H2 := hidden (H0.out.grown HW2.out.2 HNE.out)
    clear hW T k8 k9
    have hn2 : ((zs ++ fours [c.tag, c.win]) ++ twos [c.out, c.inn]).length = n + 12 := by simp [twos_len, fours_len, hn]
    have k2 := H2.out.c2
    have T := hidden (newFours HW2.out hn2 [c.tsn] 1 rfl (one32 n2) (by omega))
    go_wp2_with fail
    refine Calls.mono T.out ?_
    rintro e' w3 ⟨rfl, hW⟩
    have HW3 := hidden hW
    have H3 := hidden (H0.out.grown HW3.out.2 HNE.out)
    clear hW T k2
    have hn3 : (((zs ++ fours [c.tag, c.win]) ++ twos [c.out, c.inn]) ++ fours [c.tsn]).length = n + 16 := by simp [twos_len, fours_len, hn]
    go_wp2
    go_ret
    exact ⟨by rw [HM.out]; rfl, by rw [HV.out]; simpa only [List.append_assoc, List.append_nil] using HWA.out.trans HW3.out⟩
  · have HM := hidden (show nb c.kind = 16 by rw [hk]; rfl)
    have HV := hidden (show numB c = fours [c.tag, c.win] ++ twos [c.out, c.inn] ++ fours [c.tsn] by unfold numB; simp [hk])
    rw [HM.out] at hroom
    have k6 := H0.out.c6
    have k7 := H0.out.c7
    have T := hidden (newFours HW0.out hn [c.tag, c.win] 2 rfl (two32 n6 n7) (by omega))
    simp only [World.size_alloc] at T
    go_wp2_with fail
    refine Calls.mono T.out ?_
    rintro e' w1 ⟨rfl, hW⟩
    have HW1 := hidden hW
    have H1 := hidden (H0.out.grown HW1.out.2 HNE.out)
    clear hW T k6 k7 k0
    have hn1 : (zs ++ fours [c.tag, c.win]).length = n + 8 := by simp [fours_len, hn]
    have k8 := H1.out.c8
    have k9 := H1.out.c9
    have T := hidden (newTwos HW1.out hn1 [c.out, c.inn] 2 rfl (two_in n8 n9) (by omega))
    go_wp2_with fail
    refine Calls.mono T.out ?_
    rintro e' w2 ⟨rfl, hW⟩
    have HW2 := hidden hW
    have H2 := hidden (H0.out.grown HW2.out.2 HNE.out)
    clear hW T k8 k9
    have hn2 : ((zs ++ fours [c.tag, c.win]) ++ twos [c.out, c.inn]).length = n + 12 := by simp [twos_len, fours_len, hn]
    have k2 := H2.out.c2
    have T := hidden (newFours HW2.out hn2 [c.tsn] 1 rfl (one32 n2) (by omega))
    go_wp2_with fail
    refine Calls.mono T.out ?_
    rintro e' w3 ⟨rfl, hW⟩
    have HW3 := hidden hW
    have H3 := hidden (H0.out.grown HW3.out.2 HNE.out)
    clear hW T k2
    have hn3 : (((zs ++ fours [c.tag, c.win]) ++ twos [c.out, c.inn]) ++ fours [c.tsn]).length = n + 16 := by simp [twos_len, fours_len, hn]
    go_wp2
    go_ret
    exact ⟨by rw [HM.out]; rfl, by rw [HV.out]; simpa only [List.append_assoc, List.append_nil] using HWA.out.trans HW3.out⟩
  · have HM := hidden (show nb c.kind = 12 by rw [hk]; rfl)
    have HV := hidden (show numB c = fours [c.tsn, c.win] ++ twos [(c.gl : Int), (c.dl : Int)] by unfold numB; simp [hk])
    rw [HM.out] at hroom
    have k2 := H0.out.c2
    have k7 := H0.out.c7
    have T := hidden (newFours HW0.out hn [c.tsn, c.win] 2 rfl (two32 n2 n7) (by omega))
    simp only [World.size_alloc] at T
    go_wp2_with fail
    refine Calls.mono T.out ?_
    rintro e' w1 ⟨rfl, hW⟩
    have HW1 := hidden hW
    have H1 := hidden (H0.out.grown HW1.out.2 HNE.out)
    clear hW T k2 k7 k0
    have hn1 : (zs ++ fours [c.tsn, c.win]).length = n + 8 := by simp [fours_len, hn]
    have k10 := H1.out.c10
    have k12 := H1.out.c12
    have T := hidden (newTwos HW1.out hn1 [(c.gl : Int), (c.dl : Int)] 2 rfl (two_in (by omega) (by omega)) (by omega))
    go_wp2_with fail
    refine Calls.mono T.out ?_
    rintro e' w2 ⟨rfl, hW⟩
    have HW2 := hidden hW
    have H2 := hidden (H0.out.grown HW2.out.2 HNE.out)
    clear hW T k10 k12
    have hn2 : ((zs ++ fours [c.tsn, c.win]) ++ twos [(c.gl : Int), (c.dl : Int)]).length = n + 12 := by simp [twos_len, fours_len, hn]
    go_wp2
    go_ret
    exact ⟨by rw [HM.out]; rfl, by rw [HV.out]; simpa only [List.append_assoc, List.append_nil] using HWA.out.trans HW2.out⟩
  · have HM := hidden (show nb c.kind = 0 by rw [hk]; rfl)
    have HV := hidden (show numB c = [] by unfold numB; simp [hk])
    rw [HM.out] at hroom
    go_wp2
    go_ret
    exact ⟨by rw [HM.out]; rfl, by rw [HV.out]; simpa only [List.append_assoc, List.append_nil] using HWA.out.trans HW0.out⟩
  · have HM := hidden (show nb c.kind = 0 by rw [hk]; rfl)
    have HV := hidden (show numB c = [] by unfold numB; simp [hk])
    rw [HM.out] at hroom
    go_wp2
    go_ret
    exact ⟨by rw [HM.out]; rfl, by rw [HV.out]; simpa only [List.append_assoc, List.append_nil] using HWA.out.trans HW0.out⟩
  · have HM := hidden (show nb c.kind = 0 by rw [hk]; rfl)
    have HV := hidden (show numB c = [] by unfold numB; simp [hk])
    rw [HM.out] at hroom
    go_wp2
    go_ret
    exact ⟨by rw [HM.out]; rfl, by rw [HV.out]; simpa only [List.append_assoc, List.append_nil] using HWA.out.trans HW0.out⟩
  · have HM := hidden (show nb c.kind = 4 by rw [hk]; rfl)
    have HV := hidden (show numB c = fours [c.tsn] by unfold numB; simp [hk])
    rw [HM.out] at hroom
    have k2 := H0.out.c2
    have T := hidden (newFours HW0.out hn [c.tsn] 1 rfl (one32 n2) (by omega))
    simp only [World.size_alloc] at T
    go_wp2_with fail
    refine Calls.mono T.out ?_
    rintro e' w1 ⟨rfl, hW⟩
    have HW1 := hidden hW
    have H1 := hidden (H0.out.grown HW1.out.2 HNE.out)
    clear hW T k2 k0
    have hn1 : (zs ++ fours [c.tsn]).length = n + 4 := by simp [fours_len, hn]
    go_wp2
    go_ret
    exact ⟨by rw [HM.out]; rfl, by rw [HV.out]; simpa only [List.append_assoc, List.append_nil] using HWA.out.trans HW1.out⟩
  · have HM := hidden (show nb c.kind = 0 by rw [hk]; rfl)
    have HV := hidden (show numB c = [] by unfold numB; simp [hk])
    rw [HM.out] at hroom
    go_wp2
    go_ret
    exact ⟨by rw [HM.out]; rfl, by rw [HV.out]; simpa only [List.append_assoc, List.append_nil] using HWA.out.trans HW0.out⟩
  · have HM := hidden (show nb c.kind = 0 by rw [hk]; rfl)
    have HV := hidden (show numB c = [] by unfold numB; simp [hk])
    rw [HM.out] at hroom
    go_wp2
    go_ret
    exact ⟨by rw [HM.out]; rfl, by rw [HV.out]; simpa only [List.append_assoc, List.append_nil] using HWA.out.trans HW0.out⟩
  · have HM := hidden (show nb c.kind = 0 by rw [hk]; rfl)
    have HV := hidden (show numB c = [] by unfold numB; simp [hk])
    rw [HM.out] at hroom
    go_wp2
    go_ret
    exact ⟨by rw [HM.out]; rfl, by rw [HV.out]; simpa only [List.append_assoc, List.append_nil] using HWA.out.trans HW0.out⟩
  · have HM := hidden (show nb c.kind = 0 by rw [hk]; rfl)
    have HV := hidden (show numB c = [] by unfold numB; simp [hk])
    rw [HM.out] at hroom
    go_wp2
    go_ret
    exact ⟨by rw [HM.out]; rfl, by rw [HV.out]; simpa only [List.append_assoc, List.append_nil] using HWA.out.trans HW0.out⟩
  · have HM := hidden (show nb c.kind = 0 by rw [hk]; rfl)
    have HV := hidden (show numB c = [] by unfold numB; simp [hk])
    rw [HM.out] at hroom
    go_wp2
    go_ret
    exact ⟨by rw [HM.out]; rfl, by rw [HV.out]; simpa only [List.append_assoc, List.append_nil] using HWA.out.trans HW0.out⟩
  · have HM := hidden (show nb c.kind = 16 by rw [hk]; rfl)
    have HV := hidden (show numB c = fours [c.tsn, c.win] ++ twos [(c.gl : Int), (c.nl : Int), (c.dl : Int), 0] by unfold numB; simp [hk])
    rw [HM.out] at hroom
    have k2 := H0.out.c2
    have k7 := H0.out.c7
    have T := hidden (newFours HW0.out hn [c.tsn, c.win] 2 rfl (two32 n2 n7) (by omega))
    simp only [World.size_alloc] at T
    go_wp2_with fail
    refine Calls.mono T.out ?_
    rintro e' w1 ⟨rfl, hW⟩
    have HW1 := hidden hW
    have H1 := hidden (H0.out.grown HW1.out.2 HNE.out)
    clear hW T k2 k7 k0
    have hn1 : (zs ++ fours [c.tsn, c.win]).length = n + 8 := by simp [fours_len, hn]
    have k10 := H1.out.c10
    have k11 := H1.out.c11
    have k12 := H1.out.c12
    have T := hidden (newTwos HW1.out hn1 [(c.gl : Int), (c.nl : Int), (c.dl : Int), 0] 4 rfl (four_in (by omega) (by omega) (by omega) (by omega)) (by omega))
    go_wp2_with fail
    refine Calls.mono T.out ?_
    rintro e' w2 ⟨rfl, hW⟩
    have HW2 := hidden hW
    have H2 := hidden (H0.out.grown HW2.out.2 HNE.out)
    clear hW T k10 k11 k12
    have hn2 : ((zs ++ fours [c.tsn, c.win]) ++ twos [(c.gl : Int), (c.nl : Int), (c.dl : Int), 0]).length = n + 16 := by simp [twos_len, fours_len, hn]
    go_wp2
    go_ret
    exact ⟨by rw [HM.out]; rfl, by rw [HV.out]; simpa only [List.append_assoc, List.append_nil] using HWA.out.trans HW2.out⟩
  · have HKK := hidden hk
    obtain ⟨h0, h1, h2, h3, h4, h5, h6, h7, h8, h9, h10, h11, h14, h16⟩ := hk
    have e0 := beq_f h0
    have e1 := beq_f h1
    have e2 := beq_f h2
    have e3 := beq_f h3
    have e4 := beq_f h4
    have e5 := beq_f h5
    have e6 := beq_f h6
    have e7 := beq_f h7
    have e8 := beq_f h8
    have e9 := beq_f h9
    have e10 := beq_f h10
    have e11 := beq_f h11
    have e14 := beq_f h14
    have e16 := beq_f h16
    have HV := hidden (show numB c = [] by unfold numB; rw [if_neg h0, if_neg (by simp [h1, h2]), if_neg h3, if_neg h16, if_neg h7])
    have HM := hidden (show nb c.kind = 0 by simp [nb, h0, h1, h2, h3, h7, h16])
    clear h0 h1 h2 h3 h4 h5 h6 h7 h8 h9 h10 h11 h14 h16
    go_wp2
    go_ret
    exact ⟨by rw [HM.out]; rfl, by rw [HV.out]; simpa only [List.append_assoc, List.append_nil] using HWA.out.trans HW0.out⟩
end Go.Proofs.Ytifdkpifambhaaa.Chu
