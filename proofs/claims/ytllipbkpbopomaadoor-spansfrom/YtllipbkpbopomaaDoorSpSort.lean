/-
  Blocks sorted by their starts: slices.SortFunc at api.Gap with spans.byStart, by the library's contract.
  Conditions: the row is one of the call's own.
-/
import Derived.Test.YtllipbkpbopomaaDoorSpLay
import Derived.Test.YtllipbkpbopomaaDoorSpSame
import Derived.Shelf.SlSortCmp.WholeK
namespace Go.Proofs.YtllipbkpbopomaaDoor.Sp
open Go.RowKit Go.Shelf Go.Lib Go.Sort Go.ChangeShapes Go.WideShapes Go.ChangeAt
set_option linter.unusedVariables false

/-- which of two numbers is less -/
def cmpI (x y : Int) : Int := if x < y then -1 else if y < x then 1 else 0

theorem compare16 (x y : Int) (w : World) : Calls Tryd.prog 64 #[.int .u16 x, .int .u16 y] w fun e w' => e = .returned (.int .i64 (cmpI x y)) ∧ w = w' := by
  go_enter Tryd.func64, Tryd.ntmps64
  go_wp2
  all_goals go_ret
  all_goals refine Ser.fin_int ?_
  all_goals unfold cmpI
  all_goals (first | rfl | (split <;> (try split) <;> omega))

theorem byStart (x y : Nat × Nat) (W : World) : Calls Tryd.prog 57 #[.agg #[.int .u16 (x.1 : Int), .int .u16 (x.2 : Int)], .agg #[.int .u16 (y.1 : Int), .int .u16 (y.2 : Int)]] W fun e w' => e = .returned (.int .i64 (cmpI (x.1 : Int) (y.1 : Int))) ∧ ∃ q os', w' = grow (W.drewN q) os' := by
  have hc := fun W' => compare16 (x.1 : Int) (y.1 : Int) W'
  generalize cmpI (x.1 : Int) (y.1 : Int) = r at hc ⊢
  have HC : Hid _ := hc
  clear hc
  go_enter Tryd.func57, Tryd.ntmps57
  go_wp2_with fail
  refine (HC.out _).mono ?_
  rintro e w' ⟨rfl, rfl⟩
  go_wp2
  go_ret
  exact ⟨rfl, 0, _, by rw [alloc_eq_grow, alloc_eq_grow, grow_grow]; rfl⟩

def cfG (x y : Nat × Nat) : Int := cmpI (x.1 : Int) (y.1 : Int)
theorem ltG (x y : Nat × Nat) : ltOf cfG x y = decide (x.1 < y.1) := by
  unfold ltOf cfG cmpI
  by_cases h1 : x.1 < y.1
  · have : (x.1 : Int) < (y.1 : Int) := by omega
    simp [h1, this]
  · have h2 : ¬ (x.1 : Int) < (y.1 : Int) := by omega
    by_cases h3 : (y.1 : Int) < (x.1 : Int) <;> simp [h1, h2, h3]
theorem swoG : SWO (ltOf cfG) where
  irrefl x := by rw [ltG]; simp
  trans x y z h1 h2 := by rw [ltG] at *; simp at *; omega
  ntrans x y z h1 h2 := by rw [ltG] at *; simp at *; omega
theorem cmpLaysG (blk off size : Nat) (w : World) : CmpLays Tryd.prog 57 #[] gapC 2 cfG blk off size w := fun _ _ _ _ x y => byStart x y _

theorem holds_own {w : World} {base g cap : Nat} {X : List (Nat × Nat)} (h : w.ownsRow base 76 2 (.slice (some ⟨g, 0, none⟩) X.length cap) X.length (X.flatMap gapC)) : HoldsK gapC 2 w g 0 X.toArray := by
  intro j hj
  rw [size_flatK] at hj
  have hj2 : j < X.length * 2 := by simpa using hj
  rw [Nat.zero_add, h.frozenAt j, h.cellAt j hj2, get_flatK _ _ _ _ hj]
  refine ⟨?_, rfl⟩
  have hdm : j = (j / 2) * 2 + j % 2 := by omega
  have hlt : j / 2 < X.length := by omega
  obtain ⟨g1, g2⟩ := gapC_at X (j / 2) hlt
  have hX : X.toArray[j / 2]! = X.getD (j / 2) (0, 0) := by
    rw [getElem!_pos _ _ (by simpa using hlt), List.getD_eq_getElem?_getD, List.getElem?_eq_getElem hlt]; simp
  rw [hX]
  rcases Nat.mod_two_eq_zero_or_one j with e | e
  · rw [e]
    have h9 : (X.flatMap gapC)[j]? = (X.flatMap gapC)[j / 2 * 2]? := by congr 1; omega
    rw [h9, g1]; simp [gapC]
  · rw [e]
    have h9 : (X.flatMap gapC)[j]? = (X.flatMap gapC)[j / 2 * 2 + 1]? := by congr 1; omega
    rw [h9, g2]; simp [gapC]

theorem mapBlock_other (w : World) (blk k : Nat) (f : Array Value → Array Value) (h : k ≠ blk) : (mapBlock w blk f).heap[k]? = w.heap[k]? := by
  unfold mapBlock
  simp [Array.getElem?_modify, Ne.symm h]

theorem sortGaps (w : World) (n₀ : Nat) (v : Value) (X : List (Nat × Nat)) (h : w.ownsRow n₀ 76 2 v X.length (X.flatMap gapC)) (hn : n₀ ≤ w.heap.size) (hX : X.length ≤ 65536) (hX0 : 0 < X.length) :
    Calls Tryd.prog 62 #[v, .func (.func 57) #[] #[]] w fun e w' => e = .returned (.tuple #[]) ∧ ∃ X' : List (Nat × Nat), X'.Perm X ∧ X'.Pairwise (fun a b => a.1 ≤ b.1) ∧ Gps w' v X' ∧ Below n₀ w w' := by
  obtain ⟨g, cap, hv, hg0, hgl⟩ := h.form hX0
  subst hv
  have eg : ∀ args w, (callFunc 57 args).run Tryd.prog w = .ok (.enter 57 args) w := enters_of Tryd.func57 (by kernel_rfl) rfl
  have hcon := AnyQ.slices_SortFunc Tryd.sortGap 2 Tryd.isAgg76 Tryd.sizeOf76 gapC (fun _ => rfl) (fun x v hv => by simp [gapC] at hv; rcases hv with rfl | rfl <;> rfl) cfG swoG 57 #[] g 0 cap X.toArray w eg (cmpLaysG g 0 _ w) (holds_own h) hgl (by simp; omega)
  change Calls Tryd.prog 62 _ _ _ at hcon
  simp only [List.size_toArray] at hcon
  refine hcon.mono ?_
  rintro e w' ⟨rfl, d', n, os, hp, hs, rfl⟩
  have hsz : d'.size = X.length := by rw [hp.1]; simp
  have hH : HoldsK gapC 2 (sortWorldK gapC 2 w g 0 n d' os) g 0 d' := by
    unfold sortWorldK
    refine holdsK_grow gapC 2 _ _ _ _ _ ?_ (holdsK_putRowK gapC 2 _ g 0 X.toArray d' (holdsK_ahead gapC 2 w n g 0 _ (holds_own h)) (by rw [hsz]; simp))
    show g < (mapBlock _ _ _).heap.size
    simp [mapBlock, Sort.ahead]; exact hgl
  refine ⟨rfl, d'.toList, ?_, ?_, ⟨by rw [Array.length_toList, hsz]; omega, _, cap, by show Value.slice (some ⟨g, 0, none⟩) X.length cap = _; rw [show d'.toList.length = X.length by rw [Array.length_toList, hsz]], .inr ⟨g, rfl, ?_, fun j hj => ?_⟩⟩, ?_⟩
  · have h9 := hp.2.2
    rw [show d'.extract 0 X.length = d' by rw [← hsz]; exact Array.extract_size, show X.toArray.extract 0 X.length = X.toArray by have h8 : X.toArray.extract 0 X.toArray.size = X.toArray := Array.extract_size; rw [List.size_toArray] at h8; exact h8] at h9
    simpa using h9
  · rw [List.pairwise_iff_getElem]
    intro i j hi hj hij
    rw [Array.length_toList] at hi hj
    have h9 := hs i j (Nat.zero_le _) hij (by omega)
    rw [ltG, getElem!_pos d' j hj, getElem!_pos d' i hi] at h9
    simp at h9
    simpa using h9
  · show g < (grow _ _).heap.size
    simp [grow, putRowK, putRow, mapBlock, Sort.ahead]; omega
  · rw [Array.length_toList] at hj
    have c0 := (hH.cell (i := j) (c := 0) hj (by decide)).1
    have c1 := (hH.cell (i := j) (c := 1) hj (by decide)).1
    rw [getElem!_pos d' j hj] at c0 c1
    rw [List.getD_eq_getElem?_getD, List.getElem?_eq_getElem (by rw [Array.length_toList]; exact hj)]
    simp only [Nat.zero_add, Nat.add_zero] at c0 c1
    exact ⟨by rw [c0]; simp [gapC], by rw [c1]; simp [gapC]⟩
  · refine ⟨rfl, rfl, rfl, ?_, fun k hk => ?_⟩
    · show _ ≤ (grow _ _).heap.size
      simp [grow, putRowK, putRow, mapBlock, Sort.ahead]
    · show (grow (putRowK gapC 2 (Sort.ahead w n) g 0 d') os).heap[k]? = _
      show ((putRowK gapC 2 (Sort.ahead w n) g 0 d').heap ++ os)[k]? = _
      rw [Array.getElem?_append_left (by simp [putRowK, putRow, mapBlock, Sort.ahead]; omega)]
      exact mapBlock_other (Sort.ahead w n) g k _ (by omega)
end Go.Proofs.YtllipbkpbopomaaDoor.Sp
