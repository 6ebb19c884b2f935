/-
  What serial.Last, and the document's answer for it, return of a number and a row of numbers, and that both leave memory as it was.
  Conditions: the numbers lie within 32 bits, the row's cells hold them.
-/
import Derived.Test.YtndjbbolodejeaaSer
namespace Go.Proofs.Ytndjbbolodejeaa.Ser
open Go.ChangeShapes Go.WideShapes Go.ChangeAt Go.RowKit
set_option linter.unusedVariables false

/-- the last of a number and those behind it, from the left -/
def lastOf (a : Int) (zs : List Int) : Int := zs.foldl (fun s x => if 0 < dist 4294967296 s x then x else s) a

theorem lastOf_snoc (a : Int) (zs : List Int) (k : Nat) (h : k < zs.length) :
    lastOf a (zs.take (k + 1)) = if 0 < dist 4294967296 (lastOf a (zs.take k)) (zs.getD k 0) then zs.getD k 0 else lastOf a (zs.take k) := by
  have e : zs.take (k + 1) = zs.take k ++ [zs.getD k 0] := by
    rw [List.take_add_one, List.getElem?_eq_getElem h, List.getD_eq_getElem?_getD, List.getElem?_eq_getElem h]
    rfl
  rw [e]
  unfold lastOf
  rw [List.foldl_append]
  rfl

theorem lastOf_bounds (a : Int) (ha : 0 ≤ a ∧ a < 4294967296) (zs : List Int) (hz : ∀ n ∈ zs, 0 ≤ n ∧ n < 4294967296) : 0 ≤ lastOf a zs ∧ lastOf a zs < 4294967296 := by
  induction zs generalizing a with
  | nil => exact ha
  | cons x r ih =>
    show 0 ≤ lastOf (if 0 < dist 4294967296 a x then x else a) r ∧ _
    exact ih _ (by split; exact hz x (by simp); exact ha) (fun n hn => hz n (by simp [hn]))

theorem at_bounds (zs : List Int) (hw : ∀ n ∈ zs, 0 ≤ n ∧ n < 4294967296) (k : Nat) : 0 ≤ zs[k]?.getD 0 ∧ zs[k]?.getD 0 < 4294967296 := by
  cases h : zs[k]? with
  | none => decide
  | some x => exact hw x (List.mem_of_getElem? h)

theorem lastOf_snoc' (a : Int) (zs : List Int) (k : Nat) (h : k < zs.length) :
    lastOf a (zs.take (k + 1)) = if 0 < dist 4294967296 (lastOf a (zs.take k)) (zs[k]?.getD 0) then zs[k]?.getD 0 else lastOf a (zs.take k) := by
  rw [lastOf_snoc a zs k h, List.getD_eq_getElem?_getD]

theorem last (b off len cap : Nat) (a : Int) (zs : List Int) (w : World) (ha : 0 ≤ a ∧ a < 4294967296) (hz : len ≤ zs.length) (hbig : len ≤ 9223372036854775807)
    (hc : ∀ j, j < zs.length → w.cell? ⟨b, off + j, none⟩ = some (.int .u32 (zs.getD j 0))) (hw : ∀ n ∈ zs, 0 ≤ n ∧ n < 4294967296) :
    Calls Try.prog 15 #[.int .u32 a, .slice (some ⟨b, off, none⟩) len cap] w fun e w' => e = .returned (.int .u32 (lastOf a (zs.take len))) ∧ w = w' := by
  go_enter Try.func15, Try.ntmps15
  go_wp2
  go_loop [0, 9] (fun s i => ∃ k : Nat, k ≤ len ∧ i = .int .i64 k ∧ s = .int .u32 (lastOf a (zs.take k)))
    (fun _ i => len - (intOf i).toNat)
  case atStart => exact ⟨0, Nat.zero_le _, rfl, rfl⟩
  case round =>
    obtain ⟨k, hk, rfl, rfl⟩ := hrel
    have hcell : k < len → w.cell? ⟨b, off + k, none⟩ = some (.int .u32 (zs.getD k 0)) := fun _ => hc _ (by omega)
    have hs := lastOf_bounds a ha (zs.take k) (fun n hn => hw n (List.mem_of_mem_take hn))
    have hx := at_bounds zs hw k
    have hsn := lastOf_snoc' a zs k
    clear hc hw
    generalize hS : lastOf a (zs.take k) = S at hs hsn ⊢
    have HS : Hid (lastOf a (zs.take k) = S) := hS
    have HN : Hid (k < zs.length → lastOf a (zs.take (k + 1)) = if 0 < dist 4294967296 S (zs[k]?.getD 0) then zs[k]?.getD 0 else S) := hsn
    clear hS hsn
    go_wp2_with fail
    · have hlt : k < len := by assumption
      refine (ahead S (zs[k]?.getD 0) hs hx _).mono ?_
      rintro e w' ⟨rfl, rfl⟩
      go_wp2
      · have hq : 0 < dist 4294967296 S (zs[k]?.getD 0) := by assumption
        go_round
        case rel => exact ⟨k + 1, by omega, by go_num, by rw [HN.out (by omega), if_pos hq]⟩
        case measure => simp [intOf]; omega
      · have hq : ¬ 0 < dist 4294967296 S (zs[k]?.getD 0) := by omega
        go_round
        case rel => exact ⟨k + 1, by omega, by go_num, by rw [HN.out (by omega), if_neg hq]⟩
        case measure => simp [intOf]; omega
    · have hge : k = len := by omega
      subst hge
      go_wp2
      go_ret
      exact fin_int HS.out.symm

theorem last_none (cap : Nat) (p : Option Addr) (a : Int) (w : World) :
    Calls Try.prog 15 #[.int .u32 a, .slice p 0 cap] w fun e w' => e = .returned (.int .u32 a) ∧ w = w' := by
  go_enter Try.func15, Try.ntmps15
  go_wp2
  refine wp_loop_rounds 1 ?_
  rw [rounds_succ]
  go_wp2
  go_ret
  exact fin_int rfl

theorem rlast (b off len cap : Nat) (a : Int) (zs : List Int) (w : World) (ha : 0 ≤ a ∧ a < 4294967296) (hz : len ≤ zs.length) (hbig : len ≤ 9223372036854775807)
    (hc : ∀ j, j < zs.length → w.cell? ⟨b, off + j, none⟩ = some (.int .u32 (zs.getD j 0))) (hw : ∀ n ∈ zs, 0 ≤ n ∧ n < 4294967296) :
    Calls Try.prog 16 #[.int .u32 a, .slice (some ⟨b, off, none⟩) len cap] w fun e w' => e = .returned (.int .u32 (lastOf a (zs.take len))) ∧ w = w' := by
  go_enter Try.func16, Try.ntmps16
  go_wp2
  go_loop [0, 5] (fun s i => ∃ k : Nat, k ≤ len ∧ i = .int .i64 k ∧ s = .int .u32 (lastOf a (zs.take k)))
    (fun _ i => len - (intOf i).toNat)
  case atStart => exact ⟨0, Nat.zero_le _, rfl, rfl⟩
  case round =>
    obtain ⟨k, hk, rfl, rfl⟩ := hrel
    have hcell : k < len → w.cell? ⟨b, off + k, none⟩ = some (.int .u32 (zs.getD k 0)) := fun _ => hc _ (by omega)
    have hs := lastOf_bounds a ha (zs.take k) (fun n hn => hw n (List.mem_of_mem_take hn))
    have hx := at_bounds zs hw k
    have hsn := lastOf_snoc' a zs k
    clear hc hw
    generalize hS : lastOf a (zs.take k) = S at hs hsn ⊢
    have HS : Hid (lastOf a (zs.take k) = S) := hS
    have HN : Hid (k < zs.length → lastOf a (zs.take (k + 1)) = if 0 < dist 4294967296 S (zs[k]?.getD 0) then zs[k]?.getD 0 else S) := hsn
    clear hS hsn
    go_wp2_with fail
    · have hlt : k < len := by assumption
      refine (rless S (zs[k]?.getD 0) hs hx _).mono ?_
      rintro e w' ⟨rfl, rfl⟩
      go_wp2
      · have hq : 0 < dist 4294967296 S (zs[k]?.getD 0) := by assumption
        go_round
        case rel => exact ⟨k + 1, by omega, by go_num, by rw [HN.out (by omega), if_pos hq]⟩
        case measure => simp [intOf]; omega
      · have hq : ¬ 0 < dist 4294967296 S (zs[k]?.getD 0) := by omega
        go_round
        case rel => exact ⟨k + 1, by omega, by go_num, by rw [HN.out (by omega), if_neg hq]⟩
        case measure => simp [intOf]; omega
    · have hge : k = len := by omega
      subst hge
      go_wp2
      go_ret
      exact fin_int HS.out.symm

theorem rlast_none (cap : Nat) (p : Option Addr) (a : Int) (w : World) :
    Calls Try.prog 16 #[.int .u32 a, .slice p 0 cap] w fun e w' => e = .returned (.int .u32 a) ∧ w = w' := by
  go_enter Try.func16, Try.ntmps16
  go_wp2
  refine wp_loop_rounds 1 ?_
  rw [rounds_succ]
  go_wp2
  go_ret
  exact fin_int rfl

end Go.Proofs.Ytndjbbolodejeaa.Ser
