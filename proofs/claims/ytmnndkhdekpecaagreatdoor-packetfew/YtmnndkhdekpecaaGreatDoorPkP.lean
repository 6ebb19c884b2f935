/-
  Copies of lists: slices.Clone at the kinds of lists that a chunk holds.
  Conditions: the cells hold the lists.
-/
import Derived.Test.YtmnndkhdekpecaaGreatDoorPkA
import Derived.Laws.OwnMore
import Derived.Lib.SliceRun
namespace Go.Proofs.YtmnndkhdekpecaaGreatDoor.Pkt
open Go.ChangeShapes Go.WideShapes Go.ChangeAt Go.RowKit
open Chu (Ch Ck Cks Chk val cv cc ld Lies)
open Par (hidden Bytes Row cell_lt)
set_option linter.unusedVariables false
set_option maxRecDepth 20000

theorem lies_news {base : Nat} {w : World} {ad : Addr} {xs : List Value} (h : Lies base w (some ad) xs) : ∀ j u, xs[j]? = some u → w.cell? (ad.add j) = some u := by
  intro j u hj
  rcases h with h | ⟨b, off, e, _, hc⟩
  · rw [h] at hj; cases hj
  · cases e
    rw [show (⟨b, off, none⟩ : Addr).add j = ⟨b, off + j, none⟩ by rw [Go.WideShapes.add_plain]]
    exact hc j u hj
theorem own_lies {w : World} {base n E s : Nat} {v : Value} {xs : List Value} (h : w.ownsRow base E s v n xs) : ∃ a cap, v = .slice a n cap ∧ Lies base w a xs ∧ (a = none → n = 0 ∧ cap = 0) ∧ n ≤ cap ∧ cap ≤ maxLen := by
  obtain ⟨hl, h⟩ := h
  rcases h with ⟨rfl, rfl⟩ | ⟨g, cap, cur, rfl, hg, hh, hcap, hcm, hsz, htake⟩
  · refine ⟨none, 0, rfl, .inl (List.eq_nil_of_length_eq_zero (by simpa using hl)), (fun _ => ⟨rfl, rfl⟩), Nat.le_refl _, Nat.zero_le _⟩
  · refine ⟨_, cap, rfl, .inr ⟨g, 0, rfl, hg, fun j u hj => ?_⟩, (fun h => by cases h), hcap, hcm⟩
    have e := congrArg (fun t => t[j]?) htake
    have hjl := (List.getElem?_eq_some_iff.1 hj).1
    simp only [List.getElem?_take, hj] at e
    rw [if_pos (by omega)] at e
    simp only [World.cell?, hh, Nat.zero_add]
    simpa using e
theorem infoGap : (Tryz.prog.info? 106).map (fun i => (i.zero, i.size, i.bytes)) = some (some (.agg #[.int .u16 0, .int .u16 0]), 2, 4) := by kernel_rfl
theorem cloneGap (base : Nat) (w : World) (a : Option Addr) (n cap : Nat) (xs : List Value) (h : Lies base w a xs) (hl : xs.length = n * 2) (h1 : ∀ u ∈ xs, u.oneCell' = true) (hn : n ≤ 1000000000) :
    Calls Tryz.prog 98 #[.slice a n cap] w fun e w' => ∃ v, e = .returned v ∧ w'.ownsRow w.heap.size 106 2 v n xs ∧ Below w.heap.size w w' := by
  obtain ⟨i0, hi, hz0, hz1, hz2⟩ := info_parts infoGap
  have hen : ∀ (x : Option Addr) (n c : Nat) (w : World), (binOp .eql 55 (.slice x n c) (.slice none 0 0)).run Tryz.prog w = .ok (.bool x.isNone) w := fun x n c w => Lib.run_eql_slice_nil w 55 106 x n c 0 0 Tryz.underlying55
  rcases a with _ | ad
  · have hxs : xs = [] := by
      rcases h with h | ⟨b, off, e, _⟩
      · exact h
      · cases e
    obtain rfl : n = 0 := by rw [hxs] at hl; simp at hl; omega
    subst hxs
    clear h hl h1
    go_enter Tryz.func98, Tryz.ntmps98
    go_wp2
    go_ret
    exact ⟨_, rfl, World.ownsRow_nil _ _ _ _, Below.refl _ _⟩
  · have hb := below_new w (.cells #[] 106)
    have HNW := hidden (lies_news (h.later hb))
    have HO := hidden (show (w.alloc (.cells #[] 106)).ownsRow w.heap.size 106 2 (.slice (some ⟨w.heap.size, 0, none⟩) 0 0) 0 [] from World.ownsRow_lit w #[] 0 (Nat.le_refl _) (Nat.zero_le _) rfl)
    have HB := hidden hb
    have HL := hidden hl
    have H1 := hidden h1
    clear h hl h1 hb
    go_enter Tryz.func98, Tryz.ntmps98
    go_wp2_with (first | (at_builtin; refine wpList_append_own _ rfl (.tmp 5) _ 55 rfl w.heap.size 106 i0 (.agg #[.int .u16 0, .int .u16 0]) 2 4 Tryz.underlying55 hi hz0 hz1 hz2 rfl (by decide) _ _ _ rfl HO.out ad n cap xs rfl HL.out HNW.out H1.out ?c3 ?c4 (by simp) ?_) | go_in)
    case c3 => unfold maxLen; omega
    case c4 => omega
    intro v' w1 hown1 hgrow _
    try simp only [Nat.zero_add, List.nil_append] at hown1
    have HOW := hidden hown1
    have HBF := hidden (HB.out.grown hgrow (by simp) (fun q hq => by cases hq; exact Nat.le_refl _))
    clear hown1 hgrow
    go_wp2
    go_ret
    exact ⟨v', rfl, HOW.out, HBF.out⟩
theorem infoU32 : (Tryz.prog.info? 23).map (fun i => (i.zero, i.size, i.bytes)) = some (some (.int .u32 0), 1, 4) := by kernel_rfl
theorem cloneU32 (base : Nat) (w : World) (a : Option Addr) (n cap : Nat) (xs : List Value) (h : Lies base w a xs) (hl : xs.length = n * 1) (h1 : ∀ u ∈ xs, u.oneCell' = true) (hn : n ≤ 1000000000) :
    Calls Tryz.prog 99 #[.slice a n cap] w fun e w' => ∃ v, e = .returned v ∧ w'.ownsRow w.heap.size 23 1 v n xs ∧ Below w.heap.size w w' := by
  obtain ⟨i0, hi, hz0, hz1, hz2⟩ := info_parts infoU32
  have hen : ∀ (x : Option Addr) (n c : Nat) (w : World), (binOp .eql 56 (.slice x n c) (.slice none 0 0)).run Tryz.prog w = .ok (.bool x.isNone) w := fun x n c w => Lib.run_eql_slice_nil w 56 23 x n c 0 0 Tryz.underlying56
  rcases a with _ | ad
  · have hxs : xs = [] := by
      rcases h with h | ⟨b, off, e, _⟩
      · exact h
      · cases e
    obtain rfl : n = 0 := by rw [hxs] at hl; simp at hl; omega
    subst hxs
    clear h hl h1
    go_enter Tryz.func99, Tryz.ntmps99
    go_wp2
    go_ret
    exact ⟨_, rfl, World.ownsRow_nil _ _ _ _, Below.refl _ _⟩
  · have hb := below_new w (.cells #[] 23)
    have HNW := hidden (lies_news (h.later hb))
    have HO := hidden (show (w.alloc (.cells #[] 23)).ownsRow w.heap.size 23 1 (.slice (some ⟨w.heap.size, 0, none⟩) 0 0) 0 [] from World.ownsRow_lit w #[] 0 (Nat.le_refl _) (Nat.zero_le _) rfl)
    have HB := hidden hb
    have HL := hidden hl
    have H1 := hidden h1
    clear h hl h1 hb
    go_enter Tryz.func99, Tryz.ntmps99
    go_wp2_with (first | (at_builtin; refine wpList_append_own _ rfl (.tmp 5) _ 56 rfl w.heap.size 23 i0 (.int .u32 0) 1 4 Tryz.underlying56 hi hz0 hz1 hz2 rfl (by decide) _ _ _ rfl HO.out ad n cap xs rfl HL.out HNW.out H1.out ?c3 ?c4 (by simp) ?_) | go_in)
    case c3 => unfold maxLen; omega
    case c4 => omega
    intro v' w1 hown1 hgrow _
    try simp only [Nat.zero_add, List.nil_append] at hown1
    have HOW := hidden hown1
    have HBF := hidden (HB.out.grown hgrow (by simp) (fun q hq => by cases hq; exact Nat.le_refl _))
    clear hown1 hgrow
    go_wp2
    go_ret
    exact ⟨v', rfl, HOW.out, HBF.out⟩
theorem infoByte : (Tryz.prog.info? 5).map (fun i => (i.zero, i.size, i.bytes)) = some (some (.int .u8 0), 1, 1) := by kernel_rfl
theorem cloneByte (base : Nat) (w : World) (a : Option Addr) (n cap : Nat) (xs : List Value) (h : Lies base w a xs) (hl : xs.length = n * 1) (h1 : ∀ u ∈ xs, u.oneCell' = true) (hn : n ≤ 1000000000) :
    Calls Tryz.prog 100 #[.slice a n cap] w fun e w' => ∃ v, e = .returned v ∧ w'.ownsRow w.heap.size 5 1 v n xs ∧ Below w.heap.size w w' := by
  obtain ⟨i0, hi, hz0, hz1, hz2⟩ := info_parts infoByte
  have hen : ∀ (x : Option Addr) (n c : Nat) (w : World), (binOp .eql 27 (.slice x n c) (.slice none 0 0)).run Tryz.prog w = .ok (.bool x.isNone) w := fun x n c w => Lib.run_eql_slice_nil w 27 5 x n c 0 0 Tryz.underlying27
  rcases a with _ | ad
  · have hxs : xs = [] := by
      rcases h with h | ⟨b, off, e, _⟩
      · exact h
      · cases e
    obtain rfl : n = 0 := by rw [hxs] at hl; simp at hl; omega
    subst hxs
    clear h hl h1
    go_enter Tryz.func100, Tryz.ntmps100
    go_wp2
    go_ret
    exact ⟨_, rfl, World.ownsRow_nil _ _ _ _, Below.refl _ _⟩
  · have hb := below_new w (.cells #[] 5)
    have HNW := hidden (lies_news (h.later hb))
    have HO := hidden (show (w.alloc (.cells #[] 5)).ownsRow w.heap.size 5 1 (.slice (some ⟨w.heap.size, 0, none⟩) 0 0) 0 [] from World.ownsRow_lit w #[] 0 (Nat.le_refl _) (Nat.zero_le _) rfl)
    have HB := hidden hb
    have HL := hidden hl
    have H1 := hidden h1
    clear h hl h1 hb
    go_enter Tryz.func100, Tryz.ntmps100
    go_wp2_with (first | (at_builtin; refine wpList_append_own _ rfl (.tmp 5) _ 27 rfl w.heap.size 5 i0 (.int .u8 0) 1 1 Tryz.underlying27 hi hz0 hz1 hz2 rfl (by decide) _ _ _ rfl HO.out ad n cap xs rfl HL.out HNW.out H1.out ?c3 ?c4 (by simp) ?_) | go_in)
    case c3 => unfold maxLen; omega
    case c4 => omega
    intro v' w1 hown1 hgrow _
    try simp only [Nat.zero_add, List.nil_append] at hown1
    have HOW := hidden hown1
    have HBF := hidden (HB.out.grown hgrow (by simp) (fun q hq => by cases hq; exact Nat.le_refl _))
    clear hown1 hgrow
    go_wp2
    go_ret
    exact ⟨v', rfl, HOW.out, HBF.out⟩
theorem infoPrm : (Tryz.prog.info? 114).map (fun i => (i.zero, i.size, i.bytes)) = some (some (.agg #[.int .u16 0, .slice none 0 0]), 2, 32) := by kernel_rfl
theorem clonePrm (base : Nat) (w : World) (a : Option Addr) (n cap : Nat) (xs : List Value) (h : Lies base w a xs) (hl : xs.length = n * 2) (h1 : ∀ u ∈ xs, u.oneCell' = true) (hn : n ≤ 1000000000) :
    Calls Tryz.prog 101 #[.slice a n cap] w fun e w' => ∃ v, e = .returned v ∧ w'.ownsRow w.heap.size 114 2 v n xs ∧ Below w.heap.size w w' := by
  obtain ⟨i0, hi, hz0, hz1, hz2⟩ := info_parts infoPrm
  have hen : ∀ (x : Option Addr) (n c : Nat) (w : World), (binOp .eql 57 (.slice x n c) (.slice none 0 0)).run Tryz.prog w = .ok (.bool x.isNone) w := fun x n c w => Lib.run_eql_slice_nil w 57 114 x n c 0 0 Tryz.underlying57
  rcases a with _ | ad
  · have hxs : xs = [] := by
      rcases h with h | ⟨b, off, e, _⟩
      · exact h
      · cases e
    obtain rfl : n = 0 := by rw [hxs] at hl; simp at hl; omega
    subst hxs
    clear h hl h1
    go_enter Tryz.func101, Tryz.ntmps101
    go_wp2
    go_ret
    exact ⟨_, rfl, World.ownsRow_nil _ _ _ _, Below.refl _ _⟩
  · have hb := below_new w (.cells #[] 114)
    have HNW := hidden (lies_news (h.later hb))
    have HO := hidden (show (w.alloc (.cells #[] 114)).ownsRow w.heap.size 114 2 (.slice (some ⟨w.heap.size, 0, none⟩) 0 0) 0 [] from World.ownsRow_lit w #[] 0 (Nat.le_refl _) (Nat.zero_le _) rfl)
    have HB := hidden hb
    have HL := hidden hl
    have H1 := hidden h1
    clear h hl h1 hb
    go_enter Tryz.func101, Tryz.ntmps101
    go_wp2_with (first | (at_builtin; refine wpList_append_own _ rfl (.tmp 5) _ 57 rfl w.heap.size 114 i0 (.agg #[.int .u16 0, .slice none 0 0]) 2 32 Tryz.underlying57 hi hz0 hz1 hz2 rfl (by decide) _ _ _ rfl HO.out ad n cap xs rfl HL.out HNW.out H1.out ?c3 ?c4 (by simp) ?_) | go_in)
    case c3 => unfold maxLen; omega
    case c4 => omega
    intro v' w1 hown1 hgrow _
    try simp only [Nat.zero_add, List.nil_append] at hown1
    have HOW := hidden hown1
    have HBF := hidden (HB.out.grown hgrow (by simp) (fun q hq => by cases hq; exact Nat.le_refl _))
    clear hown1 hgrow
    go_wp2
    go_ret
    exact ⟨v', rfl, HOW.out, HBF.out⟩
end Go.Proofs.YtmnndkhdekpecaaGreatDoor.Pkt
