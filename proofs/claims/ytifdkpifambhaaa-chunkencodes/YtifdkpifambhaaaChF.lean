/-
  Chunks' bytes, as package chunk makes them.
  Conditions: the numbers lie within their kinds, the cells hold them.
-/
import Derived.Test.YtifdkpifambhaaaChE
namespace Go.Proofs.Ytifdkpifambhaaa.Chu
open Go.ChangeShapes Go.WideShapes Go.ChangeAt Go.RowKit
open Par (hidden Bytes Row Prm Prms cell_lt Cap cells_new)
set_option linter.unusedVariables false
attribute [local go_sem ↓] execOp_ld execOp_bx execOp_st
attribute [local go_sem] run_box cc_0 cc_1 cc_2 cc_3 cc_4 cc_5 cc_6 cc_7 cc_8 cc_9 cc_10 cc_11 cc_12 cc_13 cc_14

theorem gr_trans {w w1 w2 : World} {g : Nat} (h : w.grownBy w1 (some g)) (h2 : w1.grownBy w2 (some g)) : w.grownBy w2 (some g) := by
  obtain ⟨a1, a2, a3, a4, a5⟩ := h
  obtain ⟨b1, b2, b3, b4, b5⟩ := h2
  exact ⟨b1.trans a1, b2.trans a2, b3.trans a3, Nat.le_trans a4 b4, fun k hk hne => (b5 k (Nat.lt_of_lt_of_le hk a4) hne).trans (a5 k hk hne)⟩
/-- cells one behind the other, in another block than g -/
def Ln (g : Nat) (w : World) (a : Option Addr) (xs : List Value) : Prop := xs = [] ∨ ∃ b off, a = some ⟨b, off, none⟩ ∧ b ≠ g ∧ ∀ j u, xs[j]? = some u → w.cell? ⟨b, off + j, none⟩ = some u
theorem Ln.grown {g : Nat} {w w' : World} {a : Option Addr} {xs : List Value} (h : Ln g w a xs) (hg : w.grownBy w' (some g)) : Ln g w' a xs := by
  refine h.imp id ?_
  rintro ⟨b, off, rfl, hb, hc⟩
  exact ⟨b, off, rfl, hb, fun j u hj => hg.cell (hc j u hj) (by simpa using hb)⟩
/-- numbers as bytes -/
def twos (xs : List Int) : List Int := xs.flatMap fun x => [x / 256, x % 256]
def fours (xs : List Int) : List Int := xs.flatMap fun x => [x / 16777216, x / 65536 % 256, x / 256 % 256, x % 256]
theorem twos_len (xs : List Int) : (twos xs).length = 2 * xs.length := by
  induction xs with
  | nil => rfl
  | cons x xs ih => rw [show twos (x :: xs) = [x / 256, x % 256] ++ twos xs from rfl, List.length_append, ih]; simp; omega
theorem fours_len (xs : List Int) : (fours xs).length = 4 * xs.length := by
  induction xs with
  | nil => rfl
  | cons x xs ih => rw [show fours (x :: xs) = [x / 16777216, x / 65536 % 256, x / 256 % 256, x % 256] ++ fours xs from rfl, List.length_append, ih]; simp; omega
theorem twos_snoc {xs : List Int} {k : Nat} {x : Int} (h : xs[k]? = some x) : twos (xs.take (k + 1)) = twos (xs.take k) ++ [x / 256, x % 256] := by
  rw [List.take_add_one, h]; unfold twos; rw [List.flatMap_append]; rfl
theorem fours_snoc {xs : List Int} {k : Nat} {x : Int} (h : xs[k]? = some x) : fours (xs.take (k + 1)) = fours (xs.take k) ++ [x / 16777216, x / 65536 % 256, x / 256 % 256, x % 256] := by
  rw [List.take_add_one, h]; unfold fours; rw [List.flatMap_append]; rfl
theorem ln_get {g : Nat} {w : World} {a : Option Addr} {xs : List Int} {k : IntKind} (h : Ln g w a (xs.map (.int k))) {j : Nat} {x : Int} (hj : xs[j]? = some x) : ∃ b off, a = some ⟨b, off, none⟩ ∧ b ≠ g ∧ w.cell? ⟨b, off + j, none⟩ = some (.int k x) := by
  rcases h with h0 | ⟨b, off, rfl, hb, hc⟩
  · rw [List.map_eq_nil_iff] at h0
    subst h0
    simp at hj
  · exact ⟨b, off, rfl, hb, hc j _ (by simp [hj])⟩
theorem appendTwos (w : World) (B g cap n : Nat) (zs : List Int) (a : Option Addr) (m c : Nat) (xs : List Int) (hC : Cap w B g cap zs) (hn : zs.length = n) (hr : Ln g w a (xs.map (.int .u16))) (hl : xs.length = m) (hx : ∀ x ∈ xs, 0 ≤ x ∧ x < 65536) (hroom : n + 2 * m ≤ cap) :
    Calls Try.prog 46 #[.slice (some ⟨g, 0, none⟩) n cap, .slice a m c] w fun e w' => e = .returned (.slice (some ⟨g, 0, none⟩) (n + 2 * m) cap) ∧ Cap w' B g cap (zs ++ twos xs) ∧ w.grownBy w' (some g) := by
  have hcl : cap ≤ 140737488355328 := by obtain ⟨_, _, _, _, _, h, _⟩ := hC; exact h
  have HC := hidden hC
  have HR := hidden hr
  have HX := hidden hx
  have HN := hidden hn
  have HL := hidden hl
  clear hC hr hx hn hl
  go_enter Try.func46, Try.ntmps46
  go_wp2_with fail
  go_loopw [0, 9] (fun v i wr => ∃ k : Nat, k ≤ m ∧ i = .int .i64 k ∧ v = .slice (some ⟨g, 0, none⟩) (n + 2 * k) cap ∧ Cap wr B g cap (zs ++ twos (xs.take k)) ∧ w.grownBy wr (some g)) (fun _ i _ => m - (intOf i).toNat)
  case atStart => exact ⟨0, Nat.zero_le _, rfl, rfl, by simpa [twos] using HC.out, World.grownBy.refl _ _⟩
  case round =>
    obtain ⟨k, hk, rfl, rfl, hcap, hgr⟩ := hrel
    rcases Nat.lt_or_ge k m with hlt | hge
    · obtain ⟨x, hxk⟩ : ∃ x, xs[k]? = some x := ⟨_, List.getElem?_eq_getElem (by rw [HL.out]; exact hlt)⟩
      obtain ⟨b, off, rfl, hbg, hc⟩ := ln_get (HR.out.grown hgr) hxk
      obtain ⟨x0, x1⟩ := HX.out x (List.mem_of_getElem? hxk)
      have HS := hidden (twos_snoc hxk)
      have hd : (x / 256) % 256 = x / 256 := by omega
      have HCP := hidden hcap
      have HGR := hidden hgr
      have HLN := hidden (show (zs ++ twos (xs.take k)).length = n + 2 * k by rw [List.length_append, HN.out, twos_len, List.length_take, HL.out, Nat.min_eq_left hk])
      have hgw : g < wr.heap.size := by obtain ⟨cur, h1, _⟩ := hcap; exact (Array.getElem?_eq_some_iff.1 h1).1
      clear hcap hgr hxk
      go_wp2_with (at_builtin; refine Par.wpList_room rfl _ _ rfl B g cap (n + 2 * k) (zs ++ twos (xs.take k)) rfl HLN.out ?c0 ⟨wr.heap.size, 0, none⟩ 2 2 [x / 256, x % 256] rfl rfl ?c1 ?c2 ?_)
      case c0 => exact HCP.out.later ((Below.refl _ _).alloc (Nat.le_refl _) _)
      case c1 => exact cells_new wr _ 5
      case c2 => omega
      intro w2 hc2 hg2
      have HC2 := hidden hc2
      have HG2 := hidden (gr_trans HGR.out (gr_trans (World.grownBy_alloc wr _ _) hg2))
      clear hc2 hg2
      go_wp2
      go_roundw
      case rel => exact ⟨k + 1, by omega, by go_num, by rw [show n + 2 * (k + 1) = n + 2 * k + 2 by omega], by rw [HS.out]; exact HC2.out, HG2.out⟩
      case measure => simp [intOf]; omega
    · obtain rfl : k = m := by omega
      rw [List.take_of_length_le (by rw [HL.out]; omega)] at hcap
      have HCP := hidden hcap
      clear hcap
      go_wp2
      go_ret
      exact ⟨rfl, HCP.out, hgr⟩
theorem appendFours (w : World) (B g cap n : Nat) (zs : List Int) (a : Option Addr) (m c : Nat) (xs : List Int) (hC : Cap w B g cap zs) (hn : zs.length = n) (hr : Ln g w a (xs.map (.int .u32))) (hl : xs.length = m) (hx : ∀ x ∈ xs, 0 ≤ x ∧ x < 4294967296) (hroom : n + 4 * m ≤ cap) :
    Calls Try.prog 67 #[.slice (some ⟨g, 0, none⟩) n cap, .slice a m c] w fun e w' => e = .returned (.slice (some ⟨g, 0, none⟩) (n + 4 * m) cap) ∧ Cap w' B g cap (zs ++ fours xs) ∧ w.grownBy w' (some g) := by
  have hcl : cap ≤ 140737488355328 := by obtain ⟨_, _, _, _, _, h, _⟩ := hC; exact h
  have HC := hidden hC
  have HR := hidden hr
  have HX := hidden hx
  have HN := hidden hn
  have HL := hidden hl
  clear hC hr hx hn hl
  go_enter Try.func67, Try.ntmps67
  go_wp2_with fail
  go_loopw [0, 9] (fun v i wr => ∃ k : Nat, k ≤ m ∧ i = .int .i64 k ∧ v = .slice (some ⟨g, 0, none⟩) (n + 4 * k) cap ∧ Cap wr B g cap (zs ++ fours (xs.take k)) ∧ w.grownBy wr (some g)) (fun _ i _ => m - (intOf i).toNat)
  case atStart => exact ⟨0, Nat.zero_le _, rfl, rfl, by simpa [fours] using HC.out, World.grownBy.refl _ _⟩
  case round =>
    obtain ⟨k, hk, rfl, rfl, hcap, hgr⟩ := hrel
    rcases Nat.lt_or_ge k m with hlt | hge
    · obtain ⟨x, hxk⟩ : ∃ x, xs[k]? = some x := ⟨_, List.getElem?_eq_getElem (by rw [HL.out]; exact hlt)⟩
      obtain ⟨b, off, rfl, hbg, hc⟩ := ln_get (HR.out.grown hgr) hxk
      obtain ⟨x0, x1⟩ := HX.out x (List.mem_of_getElem? hxk)
      have HS := hidden (fours_snoc hxk)
      have hd : (x / 16777216) % 256 = x / 16777216 := by omega
      have HCP := hidden hcap
      have HGR := hidden hgr
      have HLN := hidden (show (zs ++ fours (xs.take k)).length = n + 4 * k by rw [List.length_append, HN.out, fours_len, List.length_take, HL.out, Nat.min_eq_left hk])
      have hgw : g < wr.heap.size := by obtain ⟨cur, h1, _⟩ := hcap; exact (Array.getElem?_eq_some_iff.1 h1).1
      clear hcap hgr hxk
      go_wp2_with (at_builtin; refine Par.wpList_room rfl _ _ rfl B g cap (n + 4 * k) (zs ++ fours (xs.take k)) rfl HLN.out ?c0 ⟨wr.heap.size, 0, none⟩ 4 4 [x / 16777216, x / 65536 % 256, x / 256 % 256, x % 256] rfl rfl ?c1 ?c2 ?_)
      case c0 => exact HCP.out.later ((Below.refl _ _).alloc (Nat.le_refl _) _)
      case c1 => exact cells_new wr _ 5
      case c2 => omega
      intro w2 hc2 hg2
      have HC2 := hidden hc2
      have HG2 := hidden (gr_trans HGR.out (gr_trans (World.grownBy_alloc wr _ _) hg2))
      clear hc2 hg2
      go_wp2
      go_roundw
      case rel => exact ⟨k + 1, by omega, by go_num, by rw [show n + 4 * (k + 1) = n + 4 * k + 4 by omega], by rw [HS.out]; exact HC2.out, HG2.out⟩
      case measure => simp [intOf]; omega
    · obtain rfl : k = m := by omega
      rw [List.take_of_length_le (by rw [HL.out]; omega)] at hcap
      have HCP := hidden hcap
      clear hcap
      go_wp2
      go_ret
      exact ⟨rfl, HCP.out, hgr⟩
end Go.Proofs.Ytifdkpifambhaaa.Chu
