/-
  Find and Same of package param, and the document's Find.
  Conditions: the numbers lie within their kinds, the cells hold them.
-/
import Derived.Test.YtallpnjjeikamabParF
import Derived.Laws.OwnMore
import Derived.Lib.SliceRun
namespace Go.Proofs.Ytallpnjjeikamab.Par
open Go.ChangeShapes Go.WideShapes Go.ChangeAt Go.RowKit
set_option linter.unusedVariables false

theorem own_empty (w : World) (B : Nat) (hB : B ≤ w.heap.size) : (w.alloc (.cells #[] 5)).ownsRow B 5 1 (.slice (some ⟨w.heap.size, 0, none⟩) 0 0) 0 [] :=
  World.ownsRow_made w #[] 0 hB (Nat.zero_le _) rfl
theorem clone (base : Nat) (w : World) (a : Option Addr) (len cap : Nat) (zs : List Int) (h : Row base w a len zs) (hn : a = none → len = 0 ∧ cap = 0) :
    Calls Try.prog 20 #[.slice a len cap] w fun e w' => ∃ v, e = .returned v ∧ w'.ownsRow w.heap.size 5 1 v len (cs zs) ∧ Below w.heap.size w w' := by
  obtain ⟨i0, hi, hz0, hz1, hz2⟩ := info_parts info5
  have hlim := h.2.2.1
  have hl := h.1
  have hen : ∀ (x : Option Addr) (n c : Nat) (w : World), (binOp .eql 22 (.slice x n c) (.slice none 0 0)).run Try.prog w = .ok (.bool x.isNone) w := fun x n c w => Lib.run_eql_slice_nil w 22 5 x n c 0 0 Try.underlying22
  rcases a with _ | ad
  · obtain ⟨rfl, rfl⟩ := hn rfl
    obtain rfl := List.eq_nil_of_length_eq_zero hl
    clear h
    go_enter Try.func20, Try.ntmps20
    go_wp2
    go_ret
    exact ⟨_, rfl, World.ownsRow_nil _ _ _ _, Below.refl _ _⟩
  · have hb : Below w.heap.size w (w.alloc (.cells #[] 5)) := (Below.refl _ w).alloc (Nat.le_refl _) _
    have HNW := hidden ((h.later hb).news)
    have HO := hidden (own_empty w w.heap.size (Nat.le_refl _))
    have HB := hidden hb
    clear h hb
    go_enter Try.func20, Try.ntmps20
    go_wp2_with (at_builtin; refine wpList_append_own _ rfl _ _ 22 rfl w.heap.size 5 i0 (.int .u8 0) 1 1 Try.underlying22 hi hz0 hz1 hz2 rfl (by decide) _ _ _ rfl HO.out ad len cap (cs zs) rfl ?c0 HNW.out (cs_one _) ?c3 ?c4 (by simp) ?_)
    case c0 => rw [cs_len, hl, Nat.mul_one]
    case c3 => unfold maxLen; omega
    case c4 => omega
    intro v' w2 ho2 hg2 _
    have B2 : Below w.heap.size w w2 := HB.out.grown hg2 (by simp) (fun j hj => (HO.out.lt j hj).1)
    have HO2 := hidden ho2
    clear hg2 ho2
    go_wp2
    go_ret
    exact ⟨_, rfl, HO2.out, B2⟩

end Go.Proofs.Ytallpnjjeikamab.Par
