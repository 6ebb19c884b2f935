/-
  A network that nobody made: every call refuses.
  Conditions: the pointer is nil, or what it points to was never made.
-/
import Derived.Test.YtmogacccffkkbaaNtB
namespace Go.Proofs.Ytmogacccffkkbaa.Nt
open Go.ChangeShapes Go.WideShapes Go.ChangeAt Go.RowKit
open Ba (hidden Only In Has own_ne own_stay own_len own_some own_mono cell_lt heap_lt)
set_option linter.unusedVariables false
/-- nobody made it -/
def Nb (w : World) (v : Value) : Prop := v = .pointer none ∨ ∃ z, v = .pointer (some ⟨z, 0, none⟩) ∧ z < w.heap.size ∧ w.cell? ⟨z, 0, none⟩ = some (.slice none 0 0)
theorem Nb.later {w w' : World} {v : Value} (h : Nb w v) (hB : Below w.heap.size w w') : Nb w' v := by
  rcases h with h | ⟨z, h1, h2, h3⟩
  · exact .inl h
  · exact .inr ⟨z, h1, Nat.lt_of_lt_of_le h2 hB.size, (hB.cell (p := ⟨z, 0, none⟩) h2).trans h3⟩
theorem Nb.ptr {w : World} {v : Value} (h : Nb w v) : ∃ a, v = .pointer a := by
  rcases h with h | ⟨z, h, _⟩
  · exact ⟨_, h⟩
  · exact ⟨_, h⟩
section
variable {w w' : World} {v : Value}
theorem unmadeN (h : Nb w v) : Calls Try.prog 46 #[v] w fun e w' => e = .returned (.bool true) ∧ w = w' := by
  rcases h with rfl | ⟨z, rfl, hz, c0⟩
  · go_enter Try.func46, Try.ntmps46
    go_wp2
    go_ret
    exact ⟨rfl, rfl⟩
  · have hN := fun w => Lib.run_eql_slice_nil (P := Try.prog) w 55 101 none 0 0 0 0 Try.underlying55
    go_enter Try.func46, Try.ntmps46
    go_wp2
    go_ret
    exact ⟨rfl, rfl⟩
theorem laneN (h : Nb w v) (path : Int) : Calls Try.prog 44 #[v, .int .i64 path] w fun e w' => e = .returned (.tuple #[.pointer none, .int .i64 4]) ∧ w = w' := by
  have U := hidden (unmadeN h)
  obtain ⟨a, rfl⟩ := h.ptr
  clear h
  go_enter Try.func44, Try.ntmps44
  go_wp2_with fail
  refine Calls.mono U.out ?_
  rintro e w' ⟨rfl, rfl⟩
  go_wp2
  go_ret2
  exact ⟨rfl, rfl⟩
theorem rowN (h : Nb w v) (en path : Int) : Calls Try.prog 35 #[v, .int .i64 en, .int .i64 path] w fun e w' => e = .returned (.tuple #[.pointer none, .int .i64 4]) ∧ w = w' := by
  have U := hidden (laneN h path)
  obtain ⟨a, rfl⟩ := h.ptr
  clear h
  go_enter Try.func35, Try.ntmps35
  go_wp2_with fail
  refine Calls.mono U.out ?_
  rintro e w' ⟨rfl, rfl⟩
  go_wp2
  go_ret2
  exact ⟨rfl, rfl⟩
theorem flyingN (h : Nb w v) (en path : Int) : Calls Try.prog 12 #[v, .int .i64 en, .int .i64 path] w fun e w' => e = .returned (.tuple #[.slice none 0 0, .int .i64 4]) ∧ w = w' := by
  have U := hidden (rowN h en path)
  obtain ⟨a, rfl⟩ := h.ptr
  clear h
  go_enter Try.func12, Try.ntmps12
  go_wp2_with fail
  refine Calls.mono U.out ?_
  rintro e w' ⟨rfl, rfl⟩
  go_wp2
  go_ret2
  exact ⟨rfl, rfl⟩
theorem trafficN (h : Nb w v) (en path : Int) : Calls Try.prog 13 #[v, .int .i64 en, .int .i64 path] w fun e w' => e = .returned (.tuple #[tv zT, .int .i64 4]) ∧ Below w.heap.size w w' := by
  have hB : Below w.heap.size w (w.alloc (.cells #[.int .i64 0, .int .i64 0, .int .i64 0, .int .i64 0] 45)) := (Below.refl _ w).alloc (Nat.le_refl _) _
  have U := hidden (rowN (h.later hB) en path)
  obtain ⟨a, rfl⟩ := h.ptr
  clear h
  go_enter Try.func13, Try.ntmps13
  go_wp2_with fail
  refine Calls.mono U.out ?_
  rintro e w' ⟨rfl, rfl⟩
  go_wp2
  refine bodyPost_ret (v := .tuple #[tv zT, .int .i64 4]) (by rw [results_cell_tmp rfl]; go_simp; rfl) rfl ⟨rfl, hB⟩
theorem launchN (h : Nb w v) (en path now : Int) (a : Option Addr) (n cap : Nat) (f : Bool) : Calls Try.prog 37 #[v, .int .i64 en, .int .i64 path, .slice a n cap, .agg #[.int .i64 0, .int .i64 now, .int .i64 0, .bool f]] w fun e w' => e = .returned (.tuple #[.int .i64 0, .int .i64 4]) ∧ Below w.heap.size w w' := by
  have hB : Below w.heap.size w (w.alloc (.cells #[.int .i64 0, .int .i64 now, .int .i64 0, .bool f] 51)) := (Below.refl _ w).alloc (Nat.le_refl _) _
  have U := hidden (rowN (h.later hB) en path)
  obtain ⟨a, rfl⟩ := h.ptr
  clear h
  go_enter Try.func37, Try.ntmps37
  go_wp2_with fail
  refine Calls.mono U.out ?_
  rintro e w' ⟨rfl, rfl⟩
  go_wp2
  go_ret2
  exact ⟨rfl, hB⟩
theorem sendN (h : Nb w v) (en path now : Int) (a : Option Addr) (n cap : Nat) : Calls Try.prog 14 #[v, .int .i64 en, .int .i64 path, .slice a n cap, .int .i64 now] w fun e w' => e = .returned (.tuple #[.int .i64 0, .int .i64 4]) ∧ Below w.heap.size w w' := by
  have U := hidden (launchN h en path now a n cap false)
  obtain ⟨p, rfl⟩ := h.ptr
  clear h
  go_enter Try.func14, Try.ntmps14
  go_wp2_with fail
  refine Calls.mono U.out ?_
  rintro e w' ⟨rfl, hB⟩
  have HB := hidden hB
  clear hB
  go_wp2
  go_ret2
  exact ⟨rfl, HB.out⟩
theorem forgeN (h : Nb w v) (en path now : Int) (a : Option Addr) (n cap : Nat) : Calls Try.prog 16 #[v, .int .i64 en, .int .i64 path, .slice a n cap, .int .i64 now] w fun e w' => e = .returned (.tuple #[.int .i64 0, .int .i64 4]) ∧ Below w.heap.size w w' := by
  have U := hidden (launchN h en path now a n cap true)
  obtain ⟨p, rfl⟩ := h.ptr
  clear h
  go_enter Try.func16, Try.ntmps16
  go_wp2_with fail
  refine Calls.mono U.out ?_
  rintro e w' ⟨rfl, hB⟩
  have HB := hidden hB
  clear hB
  go_wp2
  go_ret2
  exact ⟨rfl, HB.out⟩
def zvN : Value := .agg #[.int .i64 0, .int .i64 0, .int .i64 0, .bool false, .string ByteArray.empty]
theorem treatN (h : Nb w v) (en path j at_ bits : Int) (g : FuncId) : Calls Try.prog 38 #[v, .agg #[.int .i64 en, .int .i64 path, .int .i64 j, .int .i64 at_, .int .u8 bits], .func (.func g) #[] #[]] w fun e w' => e = .returned (.tuple #[zvN, .int .i64 4]) ∧ Below w.heap.size w w' := by
  have hB : Below w.heap.size w ((w.alloc (.cells #[.int .i64 en, .int .i64 path, .int .i64 j, .int .i64 at_, .int .u8 bits] 92)).alloc (.cells #[.int .i64 0, .int .i64 0, .int .i64 0, .bool false, .string ByteArray.empty] 88)) := ((Below.refl _ w).alloc (Nat.le_refl _) _).alloc (by simp) _
  have hR : Has ((w.alloc (.cells #[.int .i64 en, .int .i64 path, .int .i64 j, .int .i64 at_, .int .u8 bits] 92)).alloc (.cells #[.int .i64 0, .int .i64 0, .int .i64 0, .bool false, .string ByteArray.empty] 88)) (w.heap.size + 1) #[.int .i64 0, .int .i64 0, .int .i64 0, .bool false, .string ByteArray.empty] 88 := by
    have := Has.new (w.alloc (.cells #[.int .i64 en, .int .i64 path, .int .i64 j, .int .i64 at_, .int .u8 bits] 92)) #[.int .i64 0, .int .i64 0, .int .i64 0, .bool false, .string ByteArray.empty] 88
    simpa using this
  have U := hidden (rowN (h.later hB) en path)
  obtain ⟨p, rfl⟩ := h.ptr
  have HR := hidden hR
  clear h hR
  go_enter Try.func38, Try.ntmps38
  go_wp2_with fail
  refine Calls.mono U.out ?_
  rintro e w' ⟨rfl, rfl⟩
  go_wp2
  exact bodyPost_ret (v := .tuple #[zvN, .int .i64 4]) (by rw [results_cell_tmp rfl]; go_simp; rfl) rfl ⟨rfl, hB⟩
theorem deliverN (h : Nb w v) (en path j : Int) : Calls Try.prog 15 #[v, .int .i64 en, .int .i64 path, .int .i64 j] w fun e w' => e = .returned (.tuple #[.slice none 0 0, .int .i64 4]) ∧ Below w.heap.size w w' := by
  have U := hidden (treatN h en path j 0 0 39)
  unfold zvN at U
  obtain ⟨p, rfl⟩ := h.ptr
  clear h
  go_enter Try.func15, Try.ntmps15
  go_wp2_with fail
  refine Calls.mono U.out ?_
  rintro e w2 ⟨rfl, hB⟩
  have HB := hidden hB
  clear hB
  go_wp2
  go_ret2
  exact ⟨rfl, HB.out.alloc HB.out.size _⟩
theorem twiceN (h : Nb w v) (en path j : Int) : Calls Try.prog 17 #[v, .int .i64 en, .int .i64 path, .int .i64 j] w fun e w' => e = .returned (.tuple #[.int .i64 0, .int .i64 4]) ∧ Below w.heap.size w w' := by
  have U := hidden (treatN h en path j 0 0 40)
  unfold zvN at U
  obtain ⟨p, rfl⟩ := h.ptr
  clear h
  go_enter Try.func17, Try.ntmps17
  go_wp2_with fail
  refine Calls.mono U.out ?_
  rintro e w2 ⟨rfl, hB⟩
  have HB := hidden hB
  clear hB
  go_wp2
  go_ret2
  exact ⟨rfl, HB.out.alloc HB.out.size _⟩
theorem dropN (h : Nb w v) (en path j : Int) : Calls Try.prog 18 #[v, .int .i64 en, .int .i64 path, .int .i64 j] w fun e w' => e = .returned (.int .i64 4) ∧ Below w.heap.size w w' := by
  have U := hidden (treatN h en path j 0 0 42)
  unfold zvN at U
  obtain ⟨p, rfl⟩ := h.ptr
  clear h
  go_enter Try.func18, Try.ntmps18
  go_wp2_with fail
  refine Calls.mono U.out ?_
  rintro e w2 ⟨rfl, hB⟩
  have HB := hidden hB
  clear hB
  go_wp2
  go_ret
  exact ⟨rfl, HB.out.alloc HB.out.size _⟩
theorem spoilN (h : Nb w v) (en path j at_ bits : Int) : Calls Try.prog 19 #[v, .int .i64 en, .int .i64 path, .int .i64 j, .int .i64 at_, .int .u8 bits] w fun e w' => e = .returned (.int .i64 4) ∧ Below w.heap.size w w' := by
  have U := hidden (treatN h en path j at_ bits 43)
  unfold zvN at U
  obtain ⟨p, rfl⟩ := h.ptr
  clear h
  go_enter Try.func19, Try.ntmps19
  go_wp2_with fail
  refine Calls.mono U.out ?_
  rintro e w2 ⟨rfl, hB⟩
  have HB := hidden hB
  clear hB
  go_wp2
  go_ret
  exact ⟨rfl, HB.out.alloc HB.out.size _⟩
theorem downN (h : Nb w v) (path : Int) : Calls Try.prog 20 #[v, .int .i64 path] w fun e w' => e = .returned (.int .i64 4) ∧ w = w' := by
  have U := hidden (laneN h path)
  obtain ⟨p, rfl⟩ := h.ptr
  clear h
  go_enter Try.func20, Try.ntmps20
  go_wp2_with fail
  refine Calls.mono U.out ?_
  rintro e w' ⟨rfl, rfl⟩
  go_wp2
  go_ret
  exact ⟨rfl, rfl⟩
theorem upN (h : Nb w v) (path : Int) : Calls Try.prog 21 #[v, .int .i64 path] w fun e w' => e = .returned (.int .i64 4) ∧ w = w' := by
  have U := hidden (laneN h path)
  obtain ⟨p, rfl⟩ := h.ptr
  clear h
  go_enter Try.func21, Try.ntmps21
  go_wp2_with fail
  refine Calls.mono U.out ?_
  rintro e w' ⟨rfl, rfl⟩
  go_wp2
  go_ret
  exact ⟨rfl, rfl⟩
theorem worksN (h : Nb w v) (path : Int) : Calls Try.prog 22 #[v, .int .i64 path] w fun e w' => e = .returned (.bool false) ∧ w = w' := by
  have U := hidden (laneN h path)
  obtain ⟨p, rfl⟩ := h.ptr
  clear h
  go_enter Try.func22, Try.ntmps22
  go_wp2_with fail
  refine Calls.mono U.out ?_
  rintro e w' ⟨rfl, rfl⟩
  go_wp2
  go_ret
  exact ⟨rfl, rfl⟩
theorem pathsN (h : Nb w v) : Calls Try.prog 23 #[v] w fun e w' => e = .returned (.int .i64 0) ∧ w = w' := by
  have U := hidden (unmadeN h)
  obtain ⟨p, rfl⟩ := h.ptr
  clear h
  go_enter Try.func23, Try.ntmps23
  go_wp2_with fail
  refine Calls.mono U.out ?_
  rintro e w' ⟨rfl, rfl⟩
  go_wp2
  go_ret
  exact ⟨rfl, rfl⟩
end
end Go.Proofs.Ytmogacccffkkbaa.Nt
