/-
  A message in three pieces, the laws' own.
  Conditions: as at each lemma.
-/
import Derived.Test.YteomkmbaoaahoaaFrD
import Derived.Test.YteomkmbaoaahoaaFrH
import Derived.Lib.SlBytesConst
namespace Go.Proofs.Yteomkmbaoaahoaa.Fr
open Go.ChangeShapes Go.WideShapes Go.ChangeAt Go.RowKit
open Ba (hidden Has Only cell_lt heap_lt)
open Ow (Own)
set_option linter.unusedVariables false
set_option maxRecDepth 20000

theorem five_cut : cutV [97, 98, 99, 100, 101] 2 = [(true, false, [97, 98]), (false, false, [99, 100]), (false, true, [101])] := by decide
theorem five_row (w : World) : Row (w.alloc (.cells #[.int .u8 97, .int .u8 98, .int .u8 99, .int .u8 100, .int .u8 101] 5 (5, 6))) (some ⟨w.heap.size, 0, none⟩) 5 [97, 98, 99, 100, 101] := by
  have h : (w.alloc (.cells #[.int .u8 97, .int .u8 98, .int .u8 99, .int .u8 100, .int .u8 101] 5 (5, 6))).heap[w.heap.size]? = some (.cells #[.int .u8 97, .int .u8 98, .int .u8 99, .int .u8 100, .int .u8 101] 5 (5, 6)) := heap_alloc_new w _
  refine ⟨rfl, show ∀ n ∈ ([97, 98, 99, 100, 101] : List Int), 0 ≤ n ∧ n < 256 by decide, by decide, .inr ⟨_, _, rfl, fun j hj => ?_⟩⟩
  rw [Nat.zero_add]
  match j, hj with
  | 0, _ => simp only [World.cell?, h]; rfl
  | 1, _ => simp only [World.cell?, h]; rfl
  | 2, _ => simp only [World.cell?, h]; rfl
  | 3, _ => simp only [World.cell?, h]; rfl
  | 4, _ => simp only [World.cell?, h]; rfl
theorem str_five : strOfNums [97, 98, 99, 100, 101] = ⟨#[97, 98, 99, 100, 101]⟩ := by decide
theorem str_one : strOfNums [101] = ⟨#[101]⟩ := by decide
set_option maxHeartbeats 2000000 in
theorem alive (w : World) : Calls Try.prog 14 #[] w fun e w' => e = .returned (.bool true) ∧ Below w.heap.size w w' := by
  have CU : Hid (Calls Try.prog 9 #[.slice (some ⟨w.heap.size, 0, none⟩) 5 5, .int .i64 2] (w.alloc (.cells #[.int .u8 97, .int .u8 98, .int .u8 99, .int .u8 100, .int .u8 101] 5 (5, 6))) fun e w' => CutO (w.alloc (.cells #[.int .u8 97, .int .u8 98, .int .u8 99, .int .u8 100, .int .u8 101] 5 (5, 6))) [97, 98, 99, 100, 101] 2 e w') := cut_ok (n := 2) (five_row w) (by decide) (by decide) (by decide) (by decide) (by decide)
  have HB := hidden ((Below.refl w.heap.size w).alloc (Nat.le_refl _) (.cells #[.int .u8 97, .int .u8 98, .int .u8 99, .int .u8 100, .int .u8 101] 5 (5, 6)))
  have hcv0 := Go.Lib.run_convert_bytes_const w 22 5 #[.int .u8 97, .int .u8 98, .int .u8 99, .int .u8 100, .int .u8 101] 5 5 Try.underlying22 Try.underlying5
  simp only [List.size_toArray, List.length_cons, List.length_nil, Nat.reduceAdd] at hcv0
  go_enter Try.func14, Try.ntmps14
  go_wp2_with fail
  refine Calls.mono CU.out ?_
  rintro e w1 ⟨v, ps, rfl, hp, hv, b1⟩
  have hl : ps.length = 3 := by
    have := congrArg List.length hv
    rw [List.length_map, five_cut] at this
    exact this
  have B1 := hidden (HB.out.trans (b1.mono HB.out.size))
  obtain ⟨g, cap, rfl, _, _, hcap, _⟩ := Ba.own_some hp.1 (by omega)
  obtain ⟨a, c, e, hpc, _⟩ := hp.row (by omega)
  cases e
  rw [hl] at hpc ⊢
  rw [hv, five_cut] at hpc
  have JN := hidden (join (pcap := cap) hpc (by decide))
  have HPC := hidden hpc
  clear hpc hp hv CU HB b1
  go_wp2_with fail
  refine Calls.mono JN.out ?_
  rintro e w2 ⟨jv, bs, i, er, rfl, hj, hm, b2⟩
  obtain ⟨rfl, rfl, rfl⟩ := JO.unique hj (by have := cut_join (zs := [97, 98, 99, 100, 101]) (n := 2) (by decide) (by decide) (by decide); rwa [five_cut] at this)
  obtain ⟨ja, jc, rfl, hjr, _⟩ := hm.row
  have hcv1 := hjr.conv jc
  rw [str_five] at hcv1
  have hpc := HPC.out.later b2
  obtain ⟨b, off, bg, en, zs, a, cp, e, hk, c0, c1, c2, hr⟩ := hpc.get (k := 0) (by decide)
  cases e
  cases hk
  obtain ⟨b, off, bg, en, zs, a', cp', e, hk, d0, d1, d2, hr'⟩ := hpc.get (k := 2) (by decide)
  cases e
  cases hk
  have hcv2 := hr'.conv cp'
  rw [str_one] at hcv2
  have B2 := hidden (B1.out.trans (b2.mono B1.out.size))
  simp only [Nat.zero_add, Nat.zero_mul, Nat.reduceMul, Nat.reduceAdd, List.length_cons, List.length_nil] at c0 c1 d2 hcv1 hcv2
  clear hj hm b2 hjr hpc HPC JN B1 d0 d1 c2 hr hr'
  go_wp2
  go_ret
  exact ⟨rfl, B2.out⟩
end Go.Proofs.Yteomkmbaoaahoaa.Fr
