/-
  What the inner functions of package spans do with a set's cells: the ring of marks, their count, cum.
  Conditions: the numbers lie within their kinds, the set's cells hold them.
-/
import Derived.Test.YtdifceikfnnfeaaDoorSerialCalls
import Derived.Test.YtdifceikfnnfeaaDoorSpList
import Derived.Test.YtdifceikfnnfeaaDoorRows
import Derived.WalkKit
import Derived.ProofKit
import Derived.OpenShut
import Derived.Laws.BitsAllLaws
import Derived.Maps.AppendAt
import Derived.OwnWalk
namespace Go.Proofs.YtdifceikfnnfeaaDoor.Sp
open Go.ChangeShapes Go.WideShapes Go.ChangeAt Go.RowKit
set_option linter.unusedVariables false

/-- the cells of a set: the ring's words, how many are marked, whether it was made, cum -/
def Cells (cs : Array Value) (R : Nat → Nat) (cnt : Int) (made : Bool) (c : Nat) : Prop :=
  cs.size = 1027 ∧ (∀ i, i < 1024 → cs[i]? = some (.int .u64 (R i : Int))) ∧ cs[1024]? = some (.int .i64 cnt) ∧ cs[1025]? = some (.bool made) ∧ cs[1026]? = some (.int .u32 (c : Int))
/-- block b holds them -/
def At (w : World) (b : Nat) (R : Nat → Nat) (cnt : Int) (made : Bool) (c : Nat) : Prop :=
  ∃ cs, w.heap[b]? = some (.cells cs 106 (0, 0)) ∧ Cells cs R cnt made c

section
variable {w w' : World} {b : Nat} {R : Nat → Nat} {cnt : Int} {made : Bool} {c : Nat}
theorem At.of_block (h : At w b R cnt made c) (e : w'.heap[b]? = w.heap[b]?) : At w' b R cnt made c := by
  obtain ⟨cs, h1, h2⟩ := h; exact ⟨cs, e.trans h1, h2⟩
theorem At.lt (h : At w b R cnt made c) : b < w.heap.size := by
  obtain ⟨cs, h1, h2⟩ := h; exact (Array.getElem?_eq_some_iff.1 h1).1
theorem At.grown {row : Option Nat} (h : At w b R cnt made c) (hg : w.grownBy w' row) (hne : some b ≠ row) : At w' b R cnt made c := h.of_block (hg.block b h.lt hne)
theorem At.drew (h : At w b R cnt made c) : At w.drew b R cnt made c := h
theorem At.ring (h : At w b R cnt made c) (i : Nat) (hi : i < 1024) : w.cell? ⟨b, i, none⟩ = some (.int .u64 (R i : Int)) := by
  obtain ⟨cs, h1, _, h2, _⟩ := h; simp [World.cell?, h1, h2 i hi]
theorem At.count (h : At w b R cnt made c) : w.cell? ⟨b, 1024, none⟩ = some (.int .i64 cnt) := by
  obtain ⟨cs, h1, _, _, h2, _⟩ := h; simp [World.cell?, h1, h2]
theorem At.isMade (h : At w b R cnt made c) : w.cell? ⟨b, 1025, none⟩ = some (.bool made) := by
  obtain ⟨cs, h1, _, _, _, h2, _⟩ := h; simp [World.cell?, h1, h2]
theorem At.cum (h : At w b R cnt made c) : w.cell? ⟨b, 1026, none⟩ = some (.int .u32 (c : Int)) := by
  obtain ⟨cs, h1, _, _, _, _, h2⟩ := h; simp [World.cell?, h1, h2]
theorem At.frozen (h : At w b R cnt made c) (i : Nat) : w.frozen? ⟨b, i, none⟩ = false := by
  obtain ⟨cs, h1, _⟩ := h; simp [World.frozen?, h1]
theorem heap_set (w : World) (b i : Nat) (v : Value) {cs : Array Value} {t : TypeId} (h : w.heap[b]? = some (.cells cs t (0, 0))) : (w.setCell ⟨b, i, none⟩ v).heap[b]? = some (.cells (cs.setIfInBounds i v) t (0, 0)) := by
  simp [World.setCell, Array.getElem?_modify, h]
theorem At.setRing (h : At w b R cnt made c) (i x : Nat) (hi : i < 1024) : At (w.setCell ⟨b, i, none⟩ (.int .u64 (x : Int))) b (fun k => if k = i then x else R k) cnt made c := by
  obtain ⟨cs, h1, h0, h2, h3, h4, h5⟩ := h
  refine ⟨_, heap_set w b i _ h1, by simp [h0], fun k hk => ?_, ?_, ?_, ?_⟩
  · rw [Array.getElem?_setIfInBounds]
    by_cases e : i = k
    · subst e; simp [h0]; omega
    · rw [if_neg e]; simp only [if_neg (Ne.symm e)]; exact h2 k hk
  · rw [Array.getElem?_setIfInBounds, if_neg (by omega)]; exact h3
  · rw [Array.getElem?_setIfInBounds, if_neg (by omega)]; exact h4
  · rw [Array.getElem?_setIfInBounds, if_neg (by omega)]; exact h5
theorem At.setCount (h : At w b R cnt made c) (x : Int) : At (w.setCell ⟨b, 1024, none⟩ (.int .i64 x)) b R x made c := by
  obtain ⟨cs, h1, h0, h2, h3, h4, h5⟩ := h
  refine ⟨_, heap_set w b 1024 _ h1, by simp [h0], fun k hk => ?_, ?_, ?_, ?_⟩
  · rw [Array.getElem?_setIfInBounds, if_neg (by omega)]; exact h2 k hk
  · rw [Array.getElem?_setIfInBounds, if_pos rfl]; simp [h0]
  · rw [Array.getElem?_setIfInBounds, if_neg (by omega)]; exact h4
  · rw [Array.getElem?_setIfInBounds, if_neg (by omega)]; exact h5
theorem At.setCum (h : At w b R cnt made c) (x : Nat) : At (w.setCell ⟨b, 1026, none⟩ (.int .u32 (x : Int))) b R cnt made x := by
  obtain ⟨cs, h1, h0, h2, h3, h4, h5⟩ := h
  refine ⟨_, heap_set w b 1026 _ h1, by simp [h0], fun k hk => ?_, ?_, ?_, ?_⟩
  · rw [Array.getElem?_setIfInBounds, if_neg (by omega)]; exact h2 k hk
  · rw [Array.getElem?_setIfInBounds, if_neg (by omega)]; exact h3
  · rw [Array.getElem?_setIfInBounds, if_neg (by omega)]; exact h4
  · rw [Array.getElem?_setIfInBounds, if_pos rfl]; simp [h0]
end

theorem grownBy_drew {w w' : World} {row : Option Nat} (h : w.grownBy w' row) : w.grownBy w'.drew row := ⟨h.os, h.tape, h.output, h.size, h.block⟩
theorem grownBy_set {w w' : World} {b : Nat} (h : w.grownBy w' (some b)) (a : Addr) (ha : a.block = b) (v : Value) : w.grownBy (w'.setCell a v) (some b) :=
  ⟨h.os, h.tape, h.output, by simpa [World.setCell] using h.size, fun k hk hne => (Below.heap_setCell _ _ _ _ (by rw [ha]; intro e; exact hne (by rw [e]))).trans (h.block k hk hne)⟩

theorem tuple_ret {a b a' b' : Int} {w : World} (h1 : a = a') (h2 : b = b') : Ending.returned (.tuple #[.int .i64 a, .int .i64 b]) = Ending.returned (.tuple #[.int .i64 a', .int .i64 b']) ∧ w = w := by
  subst h1; subst h2; exact ⟨rfl, rfl⟩

theorem place (n : Nat) (hn : n < 4294967296) (w : World) :
    Calls Tryd.prog 80 #[.int .u32 (n : Int)] w fun e w' => e = .returned (.tuple #[.int .i64 ((n % 65536 / 64 : Nat) : Int), .int .i64 ((n % 65536 % 64 : Nat) : Int)]) ∧ w = w' := by
  go_enter Tryd.func80, Tryd.ntmps80
  go_wp2
  go_ret2
  exact tuple_ret (by omega) (by omega)

/-- a place's word and bit as letters -/
theorem letters (n : Nat) : ∃ i j, i < 1024 ∧ j < 64 ∧ Hid (n % 65536 / 64 = i ∧ n % 65536 % 64 = j) := ⟨_, _, by omega, by omega, rfl, rfl⟩
theorem place' (n : Nat) (hn : n < 4294967296) {i j : Nat} (H : Hid (n % 65536 / 64 = i ∧ n % 65536 % 64 = j)) (w : World) :
    Calls Tryd.prog 80 #[.int .u32 (n : Int)] w fun e w' => e = .returned (.tuple #[.int .i64 (i : Int), .int .i64 (j : Int)]) ∧ w = w' := by
  obtain ⟨h1, h2⟩ := H
  subst h1; subst h2
  exact place n hn w

theorem marked (n : Nat) (hn : n < 4294967296) (w : World) {b : Nat} {R : Nat → Nat} {cnt : Int} {made : Bool} {c : Nat} (h : At w b R cnt made c) (hR : Fits R) :
    Calls Tryd.prog 71 #[.pointer (some ⟨b, 0, none⟩), .int .u32 (n : Int)] w fun e w' => e = .returned (.bool (mk R (n % 65536))) ∧ w = w' := by
  obtain ⟨i, j, hi, hj, H⟩ := letters n
  go_enter Tryd.func71, Tryd.ntmps71
  go_wp2_with fail
  refine (place' n hn H _).mono ?_
  rintro e w' ⟨rfl, rfl⟩
  have hm : Hid (mk R (n % 65536) = (R i).testBit j) := by unfold Hid mk; rw [H.out.1, H.out.2]
  have hc := h.ring i hi
  have hx := hR i
  generalize R i = x at hc hx hm
  have ha : bits BinOp.and IntKind.u64 ((x : Int) / 2 ^ j) 1 = ((x / 2 ^ j % 2 : Nat) : Int) := by
    rw [show ((x : Int) / 2 ^ j) = ((x / 2 ^ j : Nat) : Int) by simp, show (1 : Int) = ((1 : Nat) : Int) from rfl, u64_and_nat _ 1 (Nat.lt_of_le_of_lt (Nat.div_le_self _ _) hx) (by decide), nat_mask1]
  go_wp2
  go_ret
  refine Ser.fin_bool ?_
  rw [hm.out, Nat.testBit_eq_decide_div_mod_eq, show ((x : Int) / 2 ^ j % 2) = ((x / 2 ^ j % 2 : Nat) : Int) by simp]
  cases Nat.mod_two_eq_zero_or_one (x / 2 ^ j) with
  | inl e => rw [e]; rfl
  | inr e => rw [e]; rfl

theorem pow64 (j : Nat) (hj : j < 64) : IntKind.u64.wrap (2 ^ j) = ((2 ^ j : Nat) : Int) ∧ 2 ^ j < 18446744073709551616 := by
  have h : ∀ j : Fin 64, IntKind.u64.wrap (2 ^ j.val) = ((2 ^ j.val : Nat) : Int) ∧ 2 ^ j.val < 18446744073709551616 := by decide +kernel
  exact h ⟨j, hj⟩

theorem grown2 (w : World) (b i j : Nat) (u v : Value) : w.grownBy ((w.setCell ⟨b, i, none⟩ u).setCell ⟨b, j, none⟩ v).drew (some b) :=
  grownBy_drew (grownBy_set (a := ⟨b, j, none⟩) (grownBy_set (a := ⟨b, i, none⟩) (World.grownBy.refl w (some b)) rfl u) rfl v)
theorem put_end {w : World} {b : Nat} {R : Nat → Nat} {cnt : Int} {made : Bool} {c : Nat} (h : At w b R cnt made c) (hR : Fits R) (i j : Nat) (hi : i < 1024) (hj : j < 64) :
    At ((w.setCell ⟨b, i, none⟩ (.int .u64 (bits .or .u64 (R i : Int) (IntKind.u64.wrap (2 ^ j))))).setCell ⟨b, 1024, none⟩ (.int .i64 (cnt + 1))).drew b (fun k => if k = i then R i ||| 2 ^ j else R k) (cnt + 1) made c := by
  have hp := pow64 j hj
  rw [hp.1, u64_or_nat _ _ (hR i) hp.2]
  exact (h.setRing i (R i ||| 2 ^ j) hi).setCount (cnt + 1)
theorem take_end {w : World} {b : Nat} {R : Nat → Nat} {cnt : Int} {made : Bool} {c : Nat} (h : At w b R cnt made c) (hR : Fits R) (i j : Nat) (hi : i < 1024) (hj : j < 64) :
    At ((w.setCell ⟨b, i, none⟩ (.int .u64 (bits .andNot .u64 (R i : Int) (IntKind.u64.wrap (2 ^ j))))).setCell ⟨b, 1024, none⟩ (.int .i64 (cnt - 1))).drew b (fun k => if k = i then R i &&& (18446744073709551615 - 2 ^ j) else R k) (cnt - 1) made c := by
  have hp := pow64 j hj
  rw [hp.1, u64_andNot_nat _ _ (hR i) hp.2]
  exact (h.setRing i (R i &&& (18446744073709551615 - 2 ^ j)) hi).setCount (cnt - 1)

theorem put (n : Nat) (hn : n < 4294967296) (w : World) {b : Nat} {R : Nat → Nat} {cnt : Int} {made : Bool} {c : Nat} (h : At w b R cnt made c) (hR : Fits R) (hcnt : 0 ≤ cnt ∧ cnt < 100000) :
    Calls Tryd.prog 77 #[.pointer (some ⟨b, 0, none⟩), .int .u32 (n : Int)] w fun e w' => e = .returned (.tuple #[]) ∧
      At w' b (fun k => if k = n % 65536 / 64 then R (n % 65536 / 64) ||| 2 ^ (n % 65536 % 64) else R k) (cnt + 1) made c ∧ w.grownBy w' (some b) := by
  obtain ⟨i, j, hi, hj, H⟩ := letters n
  go_enter Tryd.func77, Tryd.ntmps77
  go_wp2_with fail
  refine (place' n hn H _).mono ?_
  rintro e w' ⟨rfl, rfl⟩
  have hc := h.ring i hi
  have hx := hR i
  have hn := h.count
  have hf := h.frozen
  go_wp2
  go_region
  go_wp2
  go_end0
  have h1 := put_end h hR i j hi hj
  have h2 := H.out
  rw [h2.1, h2.2]
  exact ⟨rfl, h1, grown2 w b i 1024 _ _⟩

theorem take (n : Nat) (hn : n < 4294967296) (w : World) {b : Nat} {R : Nat → Nat} {cnt : Int} {made : Bool} {c : Nat} (h : At w b R cnt made c) (hR : Fits R) (hcnt : 0 ≤ cnt ∧ cnt < 100000) :
    Calls Tryd.prog 81 #[.pointer (some ⟨b, 0, none⟩), .int .u32 (n : Int)] w fun e w' => e = .returned (.tuple #[]) ∧
      At w' b (fun k => if k = n % 65536 / 64 then R (n % 65536 / 64) &&& (18446744073709551615 - 2 ^ (n % 65536 % 64)) else R k) (cnt - 1) made c ∧ w.grownBy w' (some b) := by
  obtain ⟨i, j, hi, hj, H⟩ := letters n
  go_enter Tryd.func81, Tryd.ntmps81
  go_wp2_with fail
  refine (place' n hn H _).mono ?_
  rintro e w' ⟨rfl, rfl⟩
  have hc := h.ring i hi
  have hx := hR i
  have hn := h.count
  have hf := h.frozen
  go_wp2
  go_region
  go_wp2
  go_end0
  have h1 := take_end h hR i j hi hj
  have h2 := H.out
  rw [h2.1, h2.2]
  exact ⟨rfl, h1, grown2 w b i 1024 _ _⟩

theorem distance (t : Nat) (ht : t < 4294967296) (w : World) {b : Nat} {R : Nat → Nat} {cnt : Int} {made : Bool} {c : Nat} (h : At w b R cnt made c) (hc : c < 4294967296) :
    Calls Tryd.prog 70 #[.pointer (some ⟨b, 0, none⟩), .int .u32 (t : Int)] w fun e w' => e = .returned (.int .i64 (Ser.dist 4294967296 (c : Int) (t : Int))) ∧ w = w' := by
  have h1 := h.cum
  go_enter Tryd.func70, Tryd.ntmps70
  go_wp2_with fail
  refine (Ser.diff (c : Int) (t : Int) (by omega) (by omega) _).mono ?_
  rintro e w' ⟨rfl, rfl⟩
  go_wp2
  go_ret
  exact Ser.fin_int rfl

theorem at_ (d : Nat) (hd : d < 4294967296) (w : World) {b : Nat} {R : Nat → Nat} {cnt : Int} {made : Bool} {c : Nat} (h : At w b R cnt made c) (hc : c < 4294967296) :
    Calls Tryd.prog 76 #[.pointer (some ⟨b, 0, none⟩), .int .i64 (d : Int)] w fun e w' => e = .returned (.int .u32 (((c + d) % 4294967296 : Nat) : Int)) ∧ w = w' := by
  have h1 := h.cum
  have h2 : (d : Int) % 4294967296 = d := by omega
  go_enter Tryd.func76, Tryd.ntmps76
  go_wp2_with fail
  refine (Ser.add (c : Int) (d : Int) _).mono ?_
  rintro e w' ⟨rfl, rfl⟩
  go_wp2
  go_ret
  exact Ser.fin_int (by omega)

theorem unmade (w : World) {b : Nat} {R : Nat → Nat} {cnt : Int} {made : Bool} {c : Nat} (h : At w b R cnt made c) :
    Calls Tryd.prog 69 #[.pointer (some ⟨b, 0, none⟩)] w fun e w' => e = .returned (.bool (!made)) ∧ w = w' := by
  have h1 := h.isMade
  go_enter Tryd.func69, Tryd.ntmps69
  go_wp2
  go_ret
  exact Ser.fin_bool rfl

theorem unmadeNil (w : World) :
    Calls Tryd.prog 69 #[.pointer none] w fun e w' => e = .returned (.bool true) ∧ w = w' := by
  go_enter Tryd.func69, Tryd.ntmps69
  go_wp2
  go_ret
  exact Ser.fin_bool rfl

theorem cum (w : World) {b : Nat} {R : Nat → Nat} {cnt : Int} {made : Bool} {c : Nat} (h : At w b R cnt made c) :
    Calls Tryd.prog 45 #[.pointer (some ⟨b, 0, none⟩)] w fun e w' => e = .returned (.int .u32 (c : Int)) ∧ w = w' := by
  have h1 := h.cum
  go_enter Tryd.func45, Tryd.ntmps45
  go_wp2
  go_ret
  exact Ser.fin_int rfl

theorem cumNil (w : World) :
    Calls Tryd.prog 45 #[.pointer none] w fun e w' => e = .returned (.int .u32 0) ∧ w = w' := by
  go_enter Tryd.func45, Tryd.ntmps45
  go_wp2
  go_ret
  exact Ser.fin_int rfl

theorem count (w : World) {b : Nat} {R : Nat → Nat} {cnt : Int} {made : Bool} {c : Nat} (h : At w b R cnt made c) :
    Calls Tryd.prog 74 #[.pointer (some ⟨b, 0, none⟩)] w fun e w' => e = .returned (.int .i64 cnt) ∧ w = w' := by
  have h1 := h.count
  go_enter Tryd.func74, Tryd.ntmps74
  go_wp2
  go_ret
  exact Ser.fin_int rfl

theorem countNil (w : World) :
    Calls Tryd.prog 74 #[.pointer none] w fun e w' => e = .returned (.int .i64 0) ∧ w = w' := by
  go_enter Tryd.func74, Tryd.ntmps74
  go_wp2
  go_ret
  exact Ser.fin_int rfl

theorem zeros_eq : Tryd.zeroCells106.toList = List.replicate 1024 (.int .u64 0) ++ [.int .i64 0, .bool false, .int .u32 0] := by kernel_rfl
theorem zeros_at (i : Nat) : Tryd.zeroCells106[i]? = (List.replicate 1024 (.int .u64 0) ++ [Value.int .i64 0, .bool false, .int .u32 0])[i]? := by
  rw [← zeros_eq, Array.getElem?_toList]

theorem new (c : Nat) (hc : c < 4294967296) (w : World) :
    Calls Tryd.prog 58 #[.int .u32 (c : Int)] w fun e w' => e = .returned (.pointer (some ⟨w.heap.size, 0, none⟩)) ∧ At w' w.heap.size (fun _ => 0) 0 true c ∧ w.grownBy w' none := by
  go_enter Tryd.func58, Tryd.ntmps58
  go_wp2
  go_ret
  have hs : Tryd.zeroCells106.size = 1027 := by rw [← Array.length_toList, zeros_eq, List.length_append, List.length_replicate]; rfl
  refine ⟨rfl, ⟨_, heap_alloc_new w _, by rw [Array.size_setIfInBounds, Array.size_setIfInBounds, hs], fun i hi => ?_, ?_, ?_, ?_⟩, World.grownBy_alloc w _ none⟩
  · rw [Array.getElem?_setIfInBounds, if_neg (by omega), Array.getElem?_setIfInBounds, if_neg (by omega), zeros_at, List.getElem?_append_left (by rw [List.length_replicate]; exact hi), List.getElem?_replicate, if_pos hi]; rfl
  · rw [Array.getElem?_setIfInBounds, if_neg (by omega), Array.getElem?_setIfInBounds, if_neg (by omega), zeros_at, List.getElem?_append_right (by rw [List.length_replicate]; exact Nat.le_refl _), List.length_replicate]; rfl
  · rw [Array.getElem?_setIfInBounds, if_neg (by omega), Array.getElem?_setIfInBounds, if_pos rfl, if_pos (by rw [hs]; decide)]
  · rw [Array.getElem?_setIfInBounds, if_pos rfl, if_pos (by rw [Array.size_setIfInBounds, hs]; decide)]
end Go.Proofs.YtdifceikfnnfeaaDoor.Sp
