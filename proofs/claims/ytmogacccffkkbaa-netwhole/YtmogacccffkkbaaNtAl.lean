/-
  The law's own network: two packets, the later one ahead.
  Conditions: none.
-/
import Derived.Test.YtmogacccffkkbaaNtN
import Derived.Lib.SlBytesConst
namespace Go.Proofs.Ytmogacccffkkbaa.Nt
open Go.ChangeShapes Go.WideShapes Go.ChangeAt Go.RowKit
open Ba (hidden Only In Has own_ne own_stay own_len own_some own_mono cell_lt heap_lt)
set_option linter.unusedVariables false
def A1 : St := laS (fresh 1) 0 0 5 [97] false
def A2 : St := laS A1 0 0 6 [98] false
def A3 : St := takeS A2 0 0 1 dlT
theorem bytes1 {z : Int} (h : 0 ≤ z ∧ z < 256) : Bytes [z] := fun y hy => by simp at hy; rw [hy]; exact h
theorem a1_inv : Inv A1 ∧ A1.next ≤ 1 := ⟨(inv_fresh (by decide)).la 0 0 5 false (bytes1 (by decide)), (laS_next 0 0 5 false).2⟩
theorem a2_inv : Inv A2 ∧ A2.next ≤ 2 := ⟨a1_inv.1.la 0 0 6 false (bytes1 (by decide)), by have := (laS_next (S := A1) (bs := [98]) 0 0 6 false).2; have := a1_inv.2; unfold A2; omega⟩
theorem a3_inv : Inv A3 ∧ A3.next ≤ 2 := ⟨a2_inv.1.take 0 0 1 (.inl rfl), by unfold A3; rw [takeS_next]; exact a2_inv.2⟩
theorem heap_new (w : World) (o : Obj) : (w.alloc o).heap[w.heap.size]? = some o := heap_alloc_new w o
theorem by_new (base : Nat) (w : World) {z : Int} (h : 0 ≤ z ∧ z < 256) : By base (w.alloc (.cells #[.int .u8 z] 5 (1, 2))) (some ⟨w.heap.size, 0, none⟩) 1 [z] := by
  have hh := heap_new w (.cells #[.int .u8 z] 5 (1, 2))
  refine ⟨rfl, bytes1 h, .inr ⟨w.heap.size, 0, rfl, heap_lt hh, .inr ⟨_, _, hh⟩, fun j hj => ?_⟩⟩
  obtain rfl : j = 0 := by omega
  simp only [World.cell?, Nat.add_zero, hh]
  rfl
theorem const1 (w : World) (z : Int) : (convert 32 32 (.slice (some ⟨w.heap.size, 0, none⟩) 1 1)).run Try.prog (w.alloc (.cells #[.int .u8 z] 5)) = .ok (.slice (some ⟨w.heap.size, 0, none⟩) 1 1) (w.alloc (.cells #[.int .u8 z] 5 (1, 2))) := Go.Lib.run_convert_bytes_const w 32 5 #[.int .u8 z] 1 1 Try.underlying32 Try.underlying5
theorem FlR.one {w : World} {v : Value} {L : List Pk} {q : Pk} (h : FlR w v L) (hL : L = [q]) : ∃ g cap, v = .slice (some ⟨g, 0, none⟩) 1 cap ∧ w.cell? ⟨g, 0, none⟩ = some (.int .i64 q.id) ∧ w.cell? ⟨g, 1, none⟩ = some (.int .i64 q.sent) ∧ w.cell? ⟨g, 2, none⟩ = some (.int .i64 q.len) ∧ w.cell? ⟨g, 3, none⟩ = some (.bool q.forged) := by
  subst hL
  obtain ⟨a, cap, rfl, h⟩ := h
  rcases h with h | ⟨g, rfl, hg, hc⟩
  · cases h
  · exact ⟨g, cap, rfl, hc 0 q rfl 0 _ rfl, hc 0 q rfl 1 _ rfl, hc 0 q rfl 2 _ rfl, hc 0 q rfl 3 _ rfl⟩
set_option maxHeartbeats 2000000 in
theorem awake (w : World) : Calls Try.prog 9 #[] w fun e w' => e = .returned (.bool true) ∧ Below w.heap.size w w' := by
  have NW := hidden (new 1 (by decide) w)
  go_enter Try.func9, Try.ntmps9
  go_wp2_with fail
  refine Calls.mono NW.out ?_
  rintro e w1 ⟨t, b, rfl, hN, hB⟩
  have S1 := hidden (send (hN.later ((Below.refl _ w1).alloc (Nat.le_refl _) (.cells #[.int .u8 97] 5 (1, 2)))) (inv_fresh (by decide)) (by decide) (Nat.le_trans hB.size (by simp)) 0 0 5 (cap := 1) (by_new w.heap.size w1 (z := 97) (by decide)))
  have HB := hidden hB
  have hcv := const1 w1 97
  clear hN hB NW
  go_wp2_with fail
  refine Calls.mono S1.out ?_
  rintro e w2 ⟨rfl, ⟨vs1, hN1⟩, hK1⟩
  have hN1' : No w.heap.size w2 t b vs1 A1 := hN1
  have hB2 : Below w.heap.size w w2 := (HB.out.alloc HB.out.size _).trans (hK1.below (Nat.le_trans HB.out.size (by simp)))
  have S2 := hidden (send (hN1'.later ((Below.refl _ w2).alloc (Nat.le_refl _) (.cells #[.int .u8 98] 5 (1, 2)))) a1_inv.1 (by have := a1_inv.2; omega) (Nat.le_trans hB2.size (by simp)) 0 0 6 (cap := 1) (by_new w.heap.size w2 (z := 98) (by decide)))
  have HB2 := hidden hB2
  rw [show laI (fresh 1) 0 0 5 ([97] : List Int).length = 0 from rfl, show laE (fresh 1) 0 0 5 ([97] : List Int).length = 0 from rfl]
  have hcv2 := const1 w2 98
  clear hN1 hN1' hK1 hB2 S1 HB hcv
  go_wp2_with fail
  refine Calls.mono S2.out ?_
  rintro e w3 ⟨rfl, ⟨vs2, hN2⟩, hK2⟩
  have hN2' : No w.heap.size w3 t b vs2 A2 := hN2
  have hB3 : Below w.heap.size w w3 := (HB2.out.alloc HB2.out.size _).trans (hK2.below (Nat.le_trans HB2.out.size (by simp)))
  have D := hidden (deliver_ hN2' a2_inv.1 (by have := a2_inv.2; omega) 0 0 1)
  have HB3 := hidden hB3
  rw [show laI A1 0 0 6 ([98] : List Int).length = 1 from rfl, show laE A1 0 0 6 ([98] : List Int).length = 0 from rfl]
  clear hN2 hN2' hK2 hB3 S2 HB2
  go_wp2_with fail
  refine Calls.mono D.out ?_
  rintro e w4 ⟨da, dc, rfl, hby, ⟨vs3, hN3⟩, hK3⟩
  have hN3' : No w.heap.size w4 t b vs3 A3 := hN3
  have hB4 : Below w.heap.size w w4 := HB3.out.trans (hK3.below HB3.out.size)
  have F := hidden (flying_ok hN3' (en := 0) (path := 0) rfl (by decide) (by decide))
  have HBY := hidden (show By w.heap.size w4 da 1 [98] from hby)
  have HB4 := hidden hB4
  rw [show dlB A2 0 0 1 = [98] from rfl, show trE A2 0 0 1 = 0 from rfl]
  clear hN3 hN3' hK3 hB4 D HB3 hby
  go_wp2_with fail
  refine Calls.mono F.out ?_
  rintro e w5 ⟨fv, rfl, hfl, hBf⟩
  obtain ⟨g, fcap, rfl, e0, e1, e2, e3⟩ := hfl.one (q := ⟨0, 5, 1, false, [97]⟩) rfl
  have cv := (HBY.out.later hBf).conv dc
  rw [show strOfNums [98] = ⟨#[98]⟩ from rfl] at cv
  have HB5 := hidden (HB4.out.trans (hBf.mono HB4.out.size))
  clear hfl hBf HBY HB4 F
  go_wp2
  go_ret
  exact ⟨by simp, HB5.out⟩
end Go.Proofs.Ytmogacccffkkbaa.Nt
