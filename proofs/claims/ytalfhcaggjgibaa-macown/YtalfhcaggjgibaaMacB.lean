/-
  The round of package mac leaves in the state's four numbers what the chapter's round makes of them.
  Conditions: the numbers lie within their kind, the state's cells hold them.
-/
import Derived.Test.YtalfhcaggjgibaaMacA
namespace Go.Proofs.Ytalfhcaggjgibaa.Mac
open Go.ChangeShapes Go.WideShapes Go.ChangeAt Go.RowKit
set_option linter.unusedVariables false

set_option maxRecDepth 20000 in
set_option maxHeartbeats 2000000 in
theorem round (w : World) (b : Nat) (x0 x1 x2 x3 m n : Int) (h : St w b x0 x1 x2 x3 m n) (ux0 : U x0) (ux1 : U x1) (ux2 : U x2) (ux3 : U x3) :
    Calls Try.prog 23 #[.pointer (some ⟨b, 0, none⟩)] w fun e w' => e = .returned (.tuple #[]) ∧
      St w' b (rnd x0 x1 x2 x3).1 (rnd x0 x1 x2 x3).2.1 (rnd x0 x1 x2 x3).2.2.1 (rnd x0 x1 x2 x3).2.2.2 m n ∧ w.grownBy w' (some b) := by
  go_enter Try.func23, Try.ntmps23
  go_wp2_with fail
  obtain ⟨y1, ey1⟩ : ∃ y, plus x0 x1 = y := ⟨_, rfl⟩
  have uy1 : U y1 := ey1 ▸ U_plus _ _
  have Ey1 : Hid (plus x0 x1 = y1) := ey1
  clear ey1
  have c0 := h.c0
  have c1 := h.c1
  have c2 := h.c2
  have c3 := h.c3
  have hf := h.fr
  go_cut [0] from 2 (fun s0 wx => s0 = .pointer (some ⟨b, 0, none⟩) ∧ St wx b y1 x1 x2 x3 m n ∧ w.grownBy wx (some b))
  case first =>
    go_region
    go_wp2_with fail
    all_goals (go_meet; exact ⟨rfl, Ey1.out ▸ h.s0 _, grownBy_drew (grownBy_set (World.grownBy.refl w (some b)) ⟨b, 0, none⟩ rfl _)⟩)
  case rest =>
  obtain ⟨rfl, h1, g1⟩ := hcut
  clear c0 c1 c2 c3 hf
  go_wp2_with fail
  obtain ⟨y2, ey2⟩ : ∃ y, xor (rol x1 13) y1 = y := ⟨_, rfl⟩
  have uy2 : U y2 := ey2 ▸ U_xor _ _
  have Ey2 : Hid (xor (rol x1 13) y1 = y2) := ey2
  clear ey2
  have R := rotl x1 13 ux1 (by simp)
  have c0 := h1.c0
  have c1 := h1.c1
  have c2 := h1.c2
  have c3 := h1.c3
  have hf := h1.fr
  go_cut [0] from 2 (fun s0 wx => s0 = .pointer (some ⟨b, 0, none⟩) ∧ St wx b y1 y2 x2 x3 m n ∧ w.grownBy wx (some b))
  case first =>
    go_region_with (go_at_call 25; refine Calls.mono (R _) ?_; rintro e w' ⟨rfl, rfl⟩)
    all_goals go_wp2_with fail
    all_goals (go_meet; exact ⟨rfl, Ey2.out ▸ h1.s1 _, grownBy_drew (grownBy_set g1 ⟨b, 1, none⟩ rfl _)⟩)
  case rest =>
  obtain ⟨rfl, h2, g2⟩ := hcut
  clear R c0 c1 c2 c3 hf
  have c0 := h2.c0
  have c1 := h2.c1
  have c2 := h2.c2
  have c3 := h2.c3
  have hf := h2.fr
  go_wp2_with fail
  refine Calls.mono (rotl y1 32 uy1 (by simp) _) ?_
  rintro e w' ⟨rfl, rfl⟩
  obtain ⟨y3, ey3⟩ : ∃ y, rol y1 32 = y := ⟨_, rfl⟩
  have uy3 : U y3 := ey3 ▸ U_rol _ _
  have Ey3 : Hid (rol y1 32 = y3) := ey3
  rw [ey3]
  clear ey3
  go_wp2_with fail
  have h3 := h2.s0 y3
  have g3 := grownBy_set g2 ⟨b, 0, none⟩ rfl (.int .u64 y3)
  clear c0 c1 c2 c3 hf
  generalize (World.setCell _ ⟨b, 0, none⟩ (.int .u64 y3)) = w3 at h3 g3 ⊢
  obtain ⟨y4, ey4⟩ : ∃ y, plus x2 x3 = y := ⟨_, rfl⟩
  have uy4 : U y4 := ey4 ▸ U_plus _ _
  have Ey4 : Hid (plus x2 x3 = y4) := ey4
  clear ey4
  have c0 := h3.c0
  have c1 := h3.c1
  have c2 := h3.c2
  have c3 := h3.c3
  have hf := h3.fr
  go_cut [0] from 2 (fun s0 wx => s0 = .pointer (some ⟨b, 0, none⟩) ∧ St wx b y3 y2 y4 x3 m n ∧ w.grownBy wx (some b))
  case first =>
    go_region
    go_wp2_with fail
    all_goals (go_meet; exact ⟨rfl, Ey4.out ▸ h3.s2 _, grownBy_drew (grownBy_set g3 ⟨b, 2, none⟩ rfl _)⟩)
  case rest =>
  obtain ⟨rfl, h4, g4⟩ := hcut
  clear c0 c1 c2 c3 hf
  go_wp2_with fail
  obtain ⟨y5, ey5⟩ : ∃ y, xor (rol x3 16) y4 = y := ⟨_, rfl⟩
  have uy5 : U y5 := ey5 ▸ U_xor _ _
  have Ey5 : Hid (xor (rol x3 16) y4 = y5) := ey5
  clear ey5
  have R := rotl x3 16 ux3 (by simp)
  have c0 := h4.c0
  have c1 := h4.c1
  have c2 := h4.c2
  have c3 := h4.c3
  have hf := h4.fr
  go_cut [0] from 2 (fun s0 wx => s0 = .pointer (some ⟨b, 0, none⟩) ∧ St wx b y3 y2 y4 y5 m n ∧ w.grownBy wx (some b))
  case first =>
    go_region_with (go_at_call 25; refine Calls.mono (R _) ?_; rintro e w' ⟨rfl, rfl⟩)
    all_goals go_wp2_with fail
    all_goals (go_meet; exact ⟨rfl, Ey5.out ▸ h4.s3 _, grownBy_drew (grownBy_set g4 ⟨b, 3, none⟩ rfl _)⟩)
  case rest =>
  obtain ⟨rfl, h5, g5⟩ := hcut
  clear R c0 c1 c2 c3 hf
  go_wp2_with fail
  obtain ⟨y6, ey6⟩ : ∃ y, plus y3 y5 = y := ⟨_, rfl⟩
  have uy6 : U y6 := ey6 ▸ U_plus _ _
  have Ey6 : Hid (plus y3 y5 = y6) := ey6
  clear ey6
  have c0 := h5.c0
  have c1 := h5.c1
  have c2 := h5.c2
  have c3 := h5.c3
  have hf := h5.fr
  go_cut [0] from 2 (fun s0 wx => s0 = .pointer (some ⟨b, 0, none⟩) ∧ St wx b y6 y2 y4 y5 m n ∧ w.grownBy wx (some b))
  case first =>
    go_region
    go_wp2_with fail
    all_goals (go_meet; exact ⟨rfl, Ey6.out ▸ h5.s0 _, grownBy_drew (grownBy_set g5 ⟨b, 0, none⟩ rfl _)⟩)
  case rest =>
  obtain ⟨rfl, h6, g6⟩ := hcut
  clear c0 c1 c2 c3 hf
  go_wp2_with fail
  obtain ⟨y7, ey7⟩ : ∃ y, xor (rol y5 21) y6 = y := ⟨_, rfl⟩
  have uy7 : U y7 := ey7 ▸ U_xor _ _
  have Ey7 : Hid (xor (rol y5 21) y6 = y7) := ey7
  clear ey7
  have R := rotl y5 21 uy5 (by simp)
  have c0 := h6.c0
  have c1 := h6.c1
  have c2 := h6.c2
  have c3 := h6.c3
  have hf := h6.fr
  go_cut [0] from 2 (fun s0 wx => s0 = .pointer (some ⟨b, 0, none⟩) ∧ St wx b y6 y2 y4 y7 m n ∧ w.grownBy wx (some b))
  case first =>
    go_region_with (go_at_call 25; refine Calls.mono (R _) ?_; rintro e w' ⟨rfl, rfl⟩)
    all_goals go_wp2_with fail
    all_goals (go_meet; exact ⟨rfl, Ey7.out ▸ h6.s3 _, grownBy_drew (grownBy_set g6 ⟨b, 3, none⟩ rfl _)⟩)
  case rest =>
  obtain ⟨rfl, h7, g7⟩ := hcut
  clear R c0 c1 c2 c3 hf
  go_wp2_with fail
  obtain ⟨y8, ey8⟩ : ∃ y, plus y4 y2 = y := ⟨_, rfl⟩
  have uy8 : U y8 := ey8 ▸ U_plus _ _
  have Ey8 : Hid (plus y4 y2 = y8) := ey8
  clear ey8
  have c0 := h7.c0
  have c1 := h7.c1
  have c2 := h7.c2
  have c3 := h7.c3
  have hf := h7.fr
  go_cut [0] from 2 (fun s0 wx => s0 = .pointer (some ⟨b, 0, none⟩) ∧ St wx b y6 y2 y8 y7 m n ∧ w.grownBy wx (some b))
  case first =>
    go_region
    go_wp2_with fail
    all_goals (go_meet; exact ⟨rfl, Ey8.out ▸ h7.s2 _, grownBy_drew (grownBy_set g7 ⟨b, 2, none⟩ rfl _)⟩)
  case rest =>
  obtain ⟨rfl, h8, g8⟩ := hcut
  clear c0 c1 c2 c3 hf
  go_wp2_with fail
  obtain ⟨y9, ey9⟩ : ∃ y, xor (rol y2 17) y8 = y := ⟨_, rfl⟩
  have uy9 : U y9 := ey9 ▸ U_xor _ _
  have Ey9 : Hid (xor (rol y2 17) y8 = y9) := ey9
  clear ey9
  have R := rotl y2 17 uy2 (by simp)
  have c0 := h8.c0
  have c1 := h8.c1
  have c2 := h8.c2
  have c3 := h8.c3
  have hf := h8.fr
  go_cut [0] from 2 (fun s0 wx => s0 = .pointer (some ⟨b, 0, none⟩) ∧ St wx b y6 y9 y8 y7 m n ∧ w.grownBy wx (some b))
  case first =>
    go_region_with (go_at_call 25; refine Calls.mono (R _) ?_; rintro e w' ⟨rfl, rfl⟩)
    all_goals go_wp2_with fail
    all_goals (go_meet; exact ⟨rfl, Ey9.out ▸ h8.s1 _, grownBy_drew (grownBy_set g8 ⟨b, 1, none⟩ rfl _)⟩)
  case rest =>
  obtain ⟨rfl, h9, g9⟩ := hcut
  clear R c0 c1 c2 c3 hf
  have c0 := h9.c0
  have c1 := h9.c1
  have c2 := h9.c2
  have c3 := h9.c3
  have hf := h9.fr
  go_wp2_with fail
  refine Calls.mono (rotl y8 32 uy8 (by simp) _) ?_
  rintro e w' ⟨rfl, rfl⟩
  obtain ⟨y10, ey10⟩ : ∃ y, rol y8 32 = y := ⟨_, rfl⟩
  have uy10 : U y10 := ey10 ▸ U_rol _ _
  have Ey10 : Hid (rol y8 32 = y10) := ey10
  rw [ey10]
  clear ey10
  go_wp2_with fail
  go_end0
  have er : rnd x0 x1 x2 x3 = (y6, y9, y10, y7) := by simp only [rnd, Ey1.out, Ey2.out, Ey3.out, Ey4.out, Ey5.out, Ey6.out, Ey7.out, Ey8.out, Ey9.out, Ey10.out]
  rw [er]
  exact ⟨rfl, h9.s2 _, grownBy_set g9 ⟨b, 2, none⟩ rfl _⟩
end Go.Proofs.Ytalfhcaggjgibaa.Mac
