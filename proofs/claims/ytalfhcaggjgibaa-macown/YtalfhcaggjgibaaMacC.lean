/-
  The rounds of the document leave in its state's four numbers what the chapter's round makes of them, so many times.
  Conditions: the numbers lie within their kind, the state's cells hold them.
-/
import Derived.Test.YtalfhcaggjgibaaMacA
import Derived.Deep.CutRange
namespace Go.Proofs.Ytalfhcaggjgibaa.Mac
open Go.ChangeShapes Go.WideShapes Go.ChangeAt Go.RowKit
set_option linter.unusedVariables false

/-- block b holds the document's state -/
def RS (w : World) (b : Nat) (x0 x1 x2 x3 : Int) : Prop :=
  w.heap[b]? = some (.cells #[.int .u64 x0, .int .u64 x1, .int .u64 x2, .int .u64 x3] 48 (0, 0))
section
variable {w : World} {b : Nat} {x0 x1 x2 x3 : Int}
theorem RS.c0 (h : RS w b x0 x1 x2 x3) : w.cell? ⟨b, 0, none⟩ = some (.int .u64 x0) := by unfold RS at h; simp [World.cell?, h]
theorem RS.c1 (h : RS w b x0 x1 x2 x3) : w.cell? ⟨b, 1, none⟩ = some (.int .u64 x1) := by unfold RS at h; simp [World.cell?, h]
theorem RS.c2 (h : RS w b x0 x1 x2 x3) : w.cell? ⟨b, 2, none⟩ = some (.int .u64 x2) := by unfold RS at h; simp [World.cell?, h]
theorem RS.c3 (h : RS w b x0 x1 x2 x3) : w.cell? ⟨b, 3, none⟩ = some (.int .u64 x3) := by unfold RS at h; simp [World.cell?, h]
theorem RS.fr (h : RS w b x0 x1 x2 x3) (i : Nat) : w.frozen? ⟨b, i, none⟩ = false := by unfold RS at h; simp [World.frozen?, h]
theorem RS.drew (h : RS w b x0 x1 x2 x3) : RS w.drew b x0 x1 x2 x3 := h
theorem RS.s0 (h : RS w b x0 x1 x2 x3) (v : Int) : RS (w.setCell ⟨b, 0, none⟩ (.int .u64 v)) b v x1 x2 x3 := heap_set w b 0 _ h
theorem RS.s1 (h : RS w b x0 x1 x2 x3) (v : Int) : RS (w.setCell ⟨b, 1, none⟩ (.int .u64 v)) b x0 v x2 x3 := heap_set w b 1 _ h
theorem RS.s2 (h : RS w b x0 x1 x2 x3) (v : Int) : RS (w.setCell ⟨b, 2, none⟩ (.int .u64 v)) b x0 x1 v x3 := heap_set w b 2 _ h
theorem RS.s3 (h : RS w b x0 x1 x2 x3) (v : Int) : RS (w.setCell ⟨b, 3, none⟩ (.int .u64 v)) b x0 x1 x2 v := heap_set w b 3 _ h
end

/-- several rounds -/
def rnds (q : Q) : Nat → Q
  | 0 => q
  | n + 1 => rq (rnds q n)
theorem UQ_rnds (q : Q) (h : UQ q) (n : Nat) : UQ (rnds q n) := by
  cases n with
  | zero => exact h
  | succ n => exact UQ_rq _

set_option maxRecDepth 20000 in
set_option maxHeartbeats 2000000 in
theorem rrounds (w : World) (b k : Nat) (q : Q) (hk : k ≤ 1000) (h : RS w b q.1 q.2.1 q.2.2.1 q.2.2.2) (hq : UQ q) :
    Calls Try.prog 20 #[.pointer (some ⟨b, 0, none⟩), .int .i64 (k : Int)] w fun e w' => e = .returned (.tuple #[]) ∧
      RS w' b (rnds q k).1 (rnds q k).2.1 (rnds q k).2.2.1 (rnds q k).2.2.2 ∧ w.grownBy w' (some b) := by
  go_enter Try.func20, Try.ntmps20
  go_wp2
  go_loopw [4] (fun i wr => ∃ j : Nat, j ≤ k ∧ i = .int .i64 j ∧ RS wr b (rnds q j).1 (rnds q j).2.1 (rnds q j).2.2.1 (rnds q j).2.2.2 ∧ w.grownBy wr (some b)) (fun i _ => k - (intOf i).toNat)
  case atStart => exact ⟨0, Nat.zero_le _, rfl, h, World.grownBy.refl w (some b)⟩
  case round =>
    obtain ⟨j, hj, rfl, hr, gr⟩ := hrel
    obtain ⟨ux0, ux1, ux2, ux3⟩ := UQ_rnds q hq j
    have HN : Hid (rnds q (j + 1) = rnd (rnds q j).1 (rnds q j).2.1 (rnds q j).2.2.1 (rnds q j).2.2.2) := rfl
    rcases Nat.lt_or_ge j k with hlt | hge
    · generalize (rnds q j).1 = x0 at *
      generalize (rnds q j).2.1 = x1 at *
      generalize (rnds q j).2.2.1 = x2 at *
      generalize (rnds q j).2.2.2 = x3 at *
      clear h
      go_wp2_with fail
      obtain ⟨y1, ey1⟩ : ∃ y, plus x0 x1 = y := ⟨_, rfl⟩
      have uy1 : U y1 := ey1 ▸ U_plus _ _
      have Ey1 : Hid (plus x0 x1 = y1) := ey1
      clear ey1
      have c0 := hr.c0
      have c1 := hr.c1
      have c2 := hr.c2
      have c3 := hr.c3
      have hf := hr.fr
      go_cut [0, 4] from 10 to 124 (fun s0 s4 wx => s0 = .pointer (some ⟨b, 0, none⟩) ∧ s4 = .int .i64 (j : Int) ∧ RS wx b y1 x1 x2 x3 ∧ w.grownBy wx (some b))
      case first =>
        go_region
        go_wp2_with fail
        all_goals (go_meet; exact ⟨rfl, rfl, Ey1.out ▸ hr.s0 _, grownBy_drew (grownBy_set gr ⟨b, 0, none⟩ rfl _)⟩)
      case rest =>
      obtain ⟨rfl, rfl, h1, g1⟩ := hcut
      clear c0 c1 c2 c3 hf
      go_wp2_with fail
      obtain ⟨y2, ey2⟩ : ∃ y, xor (rol x1 13) y1 = y := ⟨_, rfl⟩
      have uy2 : U y2 := ey2 ▸ U_xor _ _
      have Ey2 : Hid (xor (rol x1 13) y1 = y2) := ey2
      clear ey2
      have R := rrol x1 13 ux1 (by simp)
      have c0 := h1.c0
      have c1 := h1.c1
      have c2 := h1.c2
      have c3 := h1.c3
      have hf := h1.fr
      go_cut [0, 4] from 10 to 124 (fun s0 s4 wx => s0 = .pointer (some ⟨b, 0, none⟩) ∧ s4 = .int .i64 (j : Int) ∧ RS wx b y1 y2 x2 x3 ∧ w.grownBy wx (some b))
      case first =>
        go_region_with (go_at_call 24; refine Calls.mono (R _) ?_; rintro e w' ⟨rfl, rfl⟩)
        all_goals go_wp2_with fail
        all_goals (go_meet; exact ⟨rfl, rfl, Ey2.out ▸ h1.s1 _, grownBy_drew (grownBy_set g1 ⟨b, 1, none⟩ rfl _)⟩)
      case rest =>
      obtain ⟨rfl, rfl, h2, g2⟩ := hcut
      clear R c0 c1 c2 c3 hf
      have c0 := h2.c0
      have c1 := h2.c1
      have c2 := h2.c2
      have c3 := h2.c3
      have hf := h2.fr
      go_wp2_with fail
      refine Calls.mono (rrol y1 32 uy1 (by simp) _) ?_
      rintro e w' ⟨rfl, rfl⟩
      obtain ⟨y3, ey3⟩ : ∃ y, rol y1 32 = y := ⟨_, rfl⟩
      have uy3 : U y3 := ey3 ▸ U_rol _ _
      have Ey3 : Hid (rol y1 32 = y3) := ey3
      rw [ey3]
      clear ey3
      go_wp2_with fail
      have h3 := h2.s0 y3
      have g3 := grownBy_set g2 ⟨b, 0, none⟩ rfl (.int .u64 y3)
      clear c0 c1 c2 c3 hf
      generalize (World.setCell _ ⟨b, 0, none⟩ (.int .u64 y3)) = w3 at h3 g3 ⊢
      obtain ⟨y4, ey4⟩ : ∃ y, plus x2 x3 = y := ⟨_, rfl⟩
      have uy4 : U y4 := ey4 ▸ U_plus _ _
      have Ey4 : Hid (plus x2 x3 = y4) := ey4
      clear ey4
      have c0 := h3.c0
      have c1 := h3.c1
      have c2 := h3.c2
      have c3 := h3.c3
      have hf := h3.fr
      go_cut [0, 4] from 10 to 124 (fun s0 s4 wx => s0 = .pointer (some ⟨b, 0, none⟩) ∧ s4 = .int .i64 (j : Int) ∧ RS wx b y3 y2 y4 x3 ∧ w.grownBy wx (some b))
      case first =>
        go_region
        go_wp2_with fail
        all_goals (go_meet; exact ⟨rfl, rfl, Ey4.out ▸ h3.s2 _, grownBy_drew (grownBy_set g3 ⟨b, 2, none⟩ rfl _)⟩)
      case rest =>
      obtain ⟨rfl, rfl, h4, g4⟩ := hcut
      clear c0 c1 c2 c3 hf
      go_wp2_with fail
      obtain ⟨y5, ey5⟩ : ∃ y, xor (rol x3 16) y4 = y := ⟨_, rfl⟩
      have uy5 : U y5 := ey5 ▸ U_xor _ _
      have Ey5 : Hid (xor (rol x3 16) y4 = y5) := ey5
      clear ey5
      have R := rrol x3 16 ux3 (by simp)
      have c0 := h4.c0
      have c1 := h4.c1
      have c2 := h4.c2
      have c3 := h4.c3
      have hf := h4.fr
      go_cut [0, 4] from 10 to 124 (fun s0 s4 wx => s0 = .pointer (some ⟨b, 0, none⟩) ∧ s4 = .int .i64 (j : Int) ∧ RS wx b y3 y2 y4 y5 ∧ w.grownBy wx (some b))
      case first =>
        go_region_with (go_at_call 24; refine Calls.mono (R _) ?_; rintro e w' ⟨rfl, rfl⟩)
        all_goals go_wp2_with fail
        all_goals (go_meet; exact ⟨rfl, rfl, Ey5.out ▸ h4.s3 _, grownBy_drew (grownBy_set g4 ⟨b, 3, none⟩ rfl _)⟩)
      case rest =>
      obtain ⟨rfl, rfl, h5, g5⟩ := hcut
      clear R c0 c1 c2 c3 hf
      go_wp2_with fail
      obtain ⟨y6, ey6⟩ : ∃ y, plus y3 y5 = y := ⟨_, rfl⟩
      have uy6 : U y6 := ey6 ▸ U_plus _ _
      have Ey6 : Hid (plus y3 y5 = y6) := ey6
      clear ey6
      have c0 := h5.c0
      have c1 := h5.c1
      have c2 := h5.c2
      have c3 := h5.c3
      have hf := h5.fr
      go_cut [0, 4] from 10 to 124 (fun s0 s4 wx => s0 = .pointer (some ⟨b, 0, none⟩) ∧ s4 = .int .i64 (j : Int) ∧ RS wx b y6 y2 y4 y5 ∧ w.grownBy wx (some b))
      case first =>
        go_region
        go_wp2_with fail
        all_goals (go_meet; exact ⟨rfl, rfl, Ey6.out ▸ h5.s0 _, grownBy_drew (grownBy_set g5 ⟨b, 0, none⟩ rfl _)⟩)
      case rest =>
      obtain ⟨rfl, rfl, h6, g6⟩ := hcut
      clear c0 c1 c2 c3 hf
      go_wp2_with fail
      obtain ⟨y7, ey7⟩ : ∃ y, xor (rol y5 21) y6 = y := ⟨_, rfl⟩
      have uy7 : U y7 := ey7 ▸ U_xor _ _
      have Ey7 : Hid (xor (rol y5 21) y6 = y7) := ey7
      clear ey7
      have R := rrol y5 21 uy5 (by simp)
      have c0 := h6.c0
      have c1 := h6.c1
      have c2 := h6.c2
      have c3 := h6.c3
      have hf := h6.fr
      go_cut [0, 4] from 10 to 124 (fun s0 s4 wx => s0 = .pointer (some ⟨b, 0, none⟩) ∧ s4 = .int .i64 (j : Int) ∧ RS wx b y6 y2 y4 y7 ∧ w.grownBy wx (some b))
      case first =>
        go_region_with (go_at_call 24; refine Calls.mono (R _) ?_; rintro e w' ⟨rfl, rfl⟩)
        all_goals go_wp2_with fail
        all_goals (go_meet; exact ⟨rfl, rfl, Ey7.out ▸ h6.s3 _, grownBy_drew (grownBy_set g6 ⟨b, 3, none⟩ rfl _)⟩)
      case rest =>
      obtain ⟨rfl, rfl, h7, g7⟩ := hcut
      clear R c0 c1 c2 c3 hf
      go_wp2_with fail
      obtain ⟨y8, ey8⟩ : ∃ y, plus y4 y2 = y := ⟨_, rfl⟩
      have uy8 : U y8 := ey8 ▸ U_plus _ _
      have Ey8 : Hid (plus y4 y2 = y8) := ey8
      clear ey8
      have c0 := h7.c0
      have c1 := h7.c1
      have c2 := h7.c2
      have c3 := h7.c3
      have hf := h7.fr
      go_cut [0, 4] from 10 to 124 (fun s0 s4 wx => s0 = .pointer (some ⟨b, 0, none⟩) ∧ s4 = .int .i64 (j : Int) ∧ RS wx b y6 y2 y8 y7 ∧ w.grownBy wx (some b))
      case first =>
        go_region
        go_wp2_with fail
        all_goals (go_meet; exact ⟨rfl, rfl, Ey8.out ▸ h7.s2 _, grownBy_drew (grownBy_set g7 ⟨b, 2, none⟩ rfl _)⟩)
      case rest =>
      obtain ⟨rfl, rfl, h8, g8⟩ := hcut
      clear c0 c1 c2 c3 hf
      go_wp2_with fail
      obtain ⟨y9, ey9⟩ : ∃ y, xor (rol y2 17) y8 = y := ⟨_, rfl⟩
      have uy9 : U y9 := ey9 ▸ U_xor _ _
      have Ey9 : Hid (xor (rol y2 17) y8 = y9) := ey9
      clear ey9
      have R := rrol y2 17 uy2 (by simp)
      have c0 := h8.c0
      have c1 := h8.c1
      have c2 := h8.c2
      have c3 := h8.c3
      have hf := h8.fr
      go_cut [0, 4] from 10 to 124 (fun s0 s4 wx => s0 = .pointer (some ⟨b, 0, none⟩) ∧ s4 = .int .i64 (j : Int) ∧ RS wx b y6 y9 y8 y7 ∧ w.grownBy wx (some b))
      case first =>
        go_region_with (go_at_call 24; refine Calls.mono (R _) ?_; rintro e w' ⟨rfl, rfl⟩)
        all_goals go_wp2_with fail
        all_goals (go_meet; exact ⟨rfl, rfl, Ey9.out ▸ h8.s1 _, grownBy_drew (grownBy_set g8 ⟨b, 1, none⟩ rfl _)⟩)
      case rest =>
      obtain ⟨rfl, rfl, h9, g9⟩ := hcut
      clear R c0 c1 c2 c3 hf
      have c0 := h9.c0
      have c1 := h9.c1
      have c2 := h9.c2
      have c3 := h9.c3
      have hf := h9.fr
      go_wp2_with fail
      refine Calls.mono (rrol y8 32 uy8 (by simp) _) ?_
      rintro e w' ⟨rfl, rfl⟩
      obtain ⟨y10, ey10⟩ : ∃ y, rol y8 32 = y := ⟨_, rfl⟩
      have uy10 : U y10 := ey10 ▸ U_rol _ _
      have Ey10 : Hid (rol y8 32 = y10) := ey10
      rw [ey10]
      clear ey10
      go_wp2_with fail
      go_roundw
      case rel =>
        have er : rnds q (j + 1) = (y6, y9, y10, y7) := by rw [HN.out]; simp only [rnd, Ey1.out, Ey2.out, Ey3.out, Ey4.out, Ey5.out, Ey6.out, Ey7.out, Ey8.out, Ey9.out, Ey10.out]
        exact ⟨j + 1, by omega, by go_num, by rw [er]; exact h9.s2 _, grownBy_set g9 ⟨b, 2, none⟩ rfl _⟩
      case measure => simp [intOf]; omega
    · have hge : j = k := by omega
      subst hge
      go_wp2
      go_end0
      exact ⟨rfl, hr, gr⟩
end Go.Proofs.Ytalfhcaggjgibaa.Mac
