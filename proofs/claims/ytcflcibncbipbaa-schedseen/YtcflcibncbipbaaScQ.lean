/-
  That the program answers at all.
  Conditions: none.
-/
import Derived.Test.YtcflcibncbipbaaScP
namespace Go.Proofs.Ytcflcibncbipbaa.Sc
open Go.ChangeShapes Go.WideShapes Go.ChangeAt Go.RowKit Go.Sort Go.Lib
open Ba (hidden Has Only)
open Ow (Own)
set_option linter.unusedVariables false

theorem oL_mem {kind last : Int} {vs : List Vw} {x : Int} (h : x ∈ oL kind last vs) : chk vs = 0 ∧ x ∈ fit vs := by
  by_cases hc : chk vs = 0
  · by_cases hk : 0 ≤ kind ∧ kind ≤ 2
    · rw [(o_ok hc hk last).2] at h
      exact ⟨hc, (srt_perm _ _).mem_iff.1 h⟩
    · rw [(o_out hc hk last).2] at h
      cases h
  · rw [(o_no hc kind last).2] at h
    cases h
theorem oL_wf {kind last : Int} {vs : List Vw} {x : Int} (h : x ∈ oL kind last vs) : (Lit.int .i64 x).wf = true := by
  obtain ⟨hc, hm⟩ := oL_mem h
  have := (fit_wf vs).2.1 x hm
  have := (chk_0 hc).1
  exact wf_in (by omega)
theorem oL_len (kind last : Int) (vs : List Vw) : (oL kind last vs).length ≤ 8 := by
  by_cases hc : chk vs = 0
  · by_cases hk : 0 ≤ kind ∧ kind ≤ 2
    · rw [(o_ok hc hk last).2]
      have h1 : (ord kind last vs).length = (fit vs).length := (srt_perm _ _).length_eq
      have := (fit_wf vs).2.2
      have := (chk_0 hc).1
      omega
    · rw [(o_out hc hk last).2]
      simp
  · rw [(o_no hc kind last).2]
    simp
def three : List Vw := [(1, 10, 0, true), (1, 0, 0, true), (1, 20, 0, true)]
theorem three_first : (nV 0 0 three = 2 ∧ nB 0 0 three = true) ∧ (nV 0 2 three = 0 ∧ nB 0 2 three = true) ∧ (agV 2 three = 0 ∧ agE 2 three = 0) ∧ oE 0 three = 0 := by decide
abbrev cells3 : Array Value := #[.int .i64 1, .int .i64 10, .int .i64 0, .bool true, .int .i64 1, .int .i64 0, .int .i64 0, .bool true, .int .i64 1, .int .i64 20, .int .i64 0, .bool true]
theorem vs_three (w : World) : Vs (w.alloc (.cells cells3 42)) (some ⟨w.heap.size, 0, none⟩) 3 three := by
  have H := Has.new w cells3 42
  refine ⟨rfl, by decide, by decide, .inr ⟨_, 0, rfl, by simp, fun j z hz c u hu => ?_⟩⟩
  refine H.cell _ ?_
  match j, hz with
  | 0, hz =>
    cases hz
    match c, hu with
    | 0, hu => exact hu
    | 1, hu => exact hu
    | 2, hu => exact hu
    | 3, hu => exact hu
    | c + 4, hu => simp at hu
  | 1, hz =>
    cases hz
    match c, hu with
    | 0, hu => exact hu
    | 1, hu => exact hu
    | 2, hu => exact hu
    | 3, hu => exact hu
    | c + 4, hu => simp at hu
  | 2, hz =>
    cases hz
    match c, hu with
    | 0, hu => exact hu
    | 1, hu => exact hu
    | 2, hu => exact hu
    | 3, hu => exact hu
    | c + 4, hu => simp at hu
  | j + 3, hz => simp [three] at hz
theorem awake (w : World) : Calls Try.prog 15 #[] w fun e w' => e = .returned (.bool true) ∧ Below w.heap.size w w' := by
  obtain ⟨⟨a1, a2⟩, ⟨b1, b2⟩, ⟨c1, c2⟩, e0⟩ := three_first
  have B0 := hidden ((Below.refl w.heap.size w).alloc (Nat.le_refl _) (.cells cells3 42))
  have V := hidden (vs_three w)
  have N1 := hidden (next (cap := 3) V.out 0 0)
  have N2 := hidden (fun (W : World) (hB : Below (w.alloc (.cells cells3 42)).heap.size (w.alloc (.cells cells3 42)) W) => next (cap := 3) (V.out.later hB) 0 2)
  have N3 := hidden (fun (W : World) (hB : Below (w.alloc (.cells cells3 42)).heap.size (w.alloc (.cells cells3 42)) W) => again (cap := 3) (V.out.later hB) 2)
  rw [a1, a2, e0] at N1
  rw [b1, b2, e0] at N2
  rw [c1, c2] at N3
  clear a1 a2 b1 b2 c1 c2 e0
  go_enter Try.func15, Try.ntmps15
  go_wp2_with fail
  refine Calls.mono N1.out ?_
  rintro e w1 ⟨rfl, hB1⟩
  have B1 := hidden hB1
  clear hB1
  go_wp2_with fail
  refine Calls.mono (N2.out w1 B1.out) ?_
  rintro e w2 ⟨rfl, hB2⟩
  have B2 := hidden (B1.out.trans (hB2.mono B1.out.size))
  clear hB2
  go_wp2_with fail
  refine Calls.mono (N3.out w2 B2.out) ?_
  rintro e w3 ⟨rfl, hB3⟩
  have B3 := hidden (B0.out.trans ((B2.out.trans (hB3.mono B2.out.size)).mono B0.out.size))
  clear hB3
  go_wp2
  go_ret
  exact ⟨rfl, B3.out⟩
end Go.Proofs.Ytcflcibncbipbaa.Sc
