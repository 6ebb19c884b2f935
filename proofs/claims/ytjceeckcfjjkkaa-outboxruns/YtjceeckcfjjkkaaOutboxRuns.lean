/-
  Every answer of a box is the document's, for every first number, number of paths and row of acts.
  Conditions: none.
-/
import Derived.Test.YtjceeckcfjjkkaaRows
import Derived.WalkKit
import Derived.ProofKit
import Derived.OpenShut
import Derived.ShutString
import Derived.ChangeOld
import Derived.Below
import Derived.SizedLaws
import Derived.Deep.DeepHandedRow
import Derived.LaidLaws
import Derived.ChangeMaps5
import Derived.Test.YtjceeckcfjjkkaaOeT
import Derived.Test.YtjceeckcfjjkkaaOcA
import Derived.Test.YtjceeckcfjjkkaaAg
import Derived.Test.YtjceeckcfjjkkaaOcArgs
import Derived.Deep.CutBlock
import Derived.Deep.CutRange
import Derived.Deep.LoopGhost
namespace Go.Proofs.Ytjceeckcfjjkkaa.outboxRuns
open Go.ChangeShapes Go.WideShapes Go.ChangeAt Go.RowKit
open Go.ChangeMaps (open_string shut_string)
set_option linter.unusedVariables false

theorem own : ownKnob Try.prog.godebug = none := by kernel_rfl
theorem laidOut : laidOutB Try.prog = true := by kernel_rfl

open Ba (hidden Has cell_lt)
open Ob
theorem to_open {w1 w2 : World} {q : Ch → Prop} {L : List Ch} {u : Value} {b : Bool} (h : To w1 w2 q L u b) : ∃ (y : Ch) (a1 : Option Addr) (n1 c1 : Nat), u = ov y (.slice a1 n1 c1) ∧ Row w2 a1 n1 y.p.d ∧ ((b = true ∧ ∃ i, Fst q L i y) ∨ (b = false ∧ y = zC ∧ ∀ x ∈ L, ¬ q x)) := by
  rcases h with ⟨i, x, v, hf, rfl, rfl, hm⟩ | ⟨rfl, rfl, hn⟩
  · obtain ⟨a1, c1, rfl, hr, _⟩ := hm.row
    exact ⟨x, a1, _, c1, rfl, hr, .inl ⟨rfl, i, hf⟩⟩
  · exact ⟨zC, none, 0, 0, rfl, Row.nil _ _, .inr ⟨rfl, rfl, hn⟩⟩
theorem to_second {D : Nat → Prop} {w3 w4 : World} {q : Ch → Prop} {L : List Ch} {y : Ch} {u' : Value} {b b' : Bool} (h : (b = true ∧ ∃ i, Fst q L i y) ∨ (b = false ∧ y = zC ∧ ∀ x ∈ L, ¬ q x)) (h' : ToR D w3 w4 q L u' b') : ∃ (a2 : Option Addr) (n2 c2 : Nat), u' = ov y (.slice a2 n2 c2) ∧ b = b' ∧ Row w4 a2 n2 y.p.d := by
  rcases h with ⟨rfl, i, hf⟩ | ⟨rfl, rfl, hn⟩
  · rcases h' with ⟨j, x', v', hf', rfl, rfl, hb⟩ | ⟨_, _, hn⟩
    · obtain ⟨rfl, rfl⟩ := fst_unique hf hf'
      obtain ⟨g, off, c2, rfl, _, _, _, _, hr2⟩ := hb.row
      exact ⟨_, _, c2, rfl, rfl, hr2⟩
    · exact absurd hf.2.1 (hn y (List.mem_of_getElem? hf.1))
  · rcases h' with ⟨j, x', v', hf', _, _, _⟩ | ⟨rfl, rfl, _⟩
    · exact absurd hf'.2.1 (hn x' (List.mem_of_getElem? hf'.1))
    · exact ⟨none, 0, 0, rfl, rfl, Row.nil _ _⟩
theorem fl_out {n : Nat} {L : List Ch} (hk : Lk n L) {s : Int} (hs : ¬ (0 ≤ s ∧ s < (n : Int))) : fl L s = 0 := sm_zero L (fun x hx => by
  have h := (hk.2 x hx).2
  unfold flF
  rw [if_neg (fun e => by have := e.2; omega)])
theorem load_oc {w : World} {b : Nat} {y : Ch} {u : Value} (h : Has w b (oc y u) 59) : (Instr.loadAt 59 (.pointer (some ⟨b, 0, none⟩))).run Try.prog w = .ok (ov y u) w := by
  unfold oc at h
  obtain ⟨e0, e1, e2, e3, e4, e5, e6, e7, e8, e9, e10, e11, e12, e13⟩ := cells14 h
  simp [go_sem, e0, e1, e2, e3, e4, e5, e6, e7, e8, e9, e10, e11, e12, e13, ov]
set_option maxRecDepth 20000 in
set_option maxHeartbeats 40000000 in
theorem same_ {K t r : Nat} {w0 w : World} {S : St} (h : Bx w0 w t r S) (hG : Ob.Good K S) : Calls Try.prog 13 #[.pointer (some ⟨t, 0, none⟩), .pointer (some ⟨r, 0, none⟩)] w fun e w' => e = .returned (.bool true) ∧ Below w.heap.size w w' := by
  obtain ⟨f, rv, P, hN, hFC⟩ := h.no
  obtain ⟨v, P2, hR, hFD⟩ := h.ro
  obtain ⟨L, hL⟩ : ∃ L, L = S.L := ⟨_, rfl⟩
  have hLk := hG.lk
  rw [← hL] at hN hR hLk
  have HLK := hidden hLk
  have HLEN : Hid (L.length ≤ 1000) := by rw [hL]; have := hG.len; have := hG.k; show _ ≤ _; omega
  have HD1 : Hid (∀ x ∈ L, 1 ≤ x.p.d.length) := fun x hx => (hG.ch x (by rw [← hL]; exact hx)).d1
  obtain ⟨nx, hnx⟩ : ∃ nx, nx = nextS S := ⟨_, rfl⟩
  obtain ⟨sc, hsc⟩ : ∃ sc, sc = S.c := ⟨_, rfl⟩
  obtain ⟨n, hn⟩ : ∃ n, n = S.n := ⟨_, rfl⟩
  rw [← hnx, ← hn] at hN
  rw [← hsc, ← hn] at hR
  rw [← hn] at HLK
  have HNX : Hid (nx = (sc + (L.length : Int) + 1) % 4294967296) := by rw [hnx, hsc, hL]; rfl
  have HSC : Hid (0 ≤ sc ∧ sc < 4294967296) := by rw [hsc]; exact ⟨hG.c0, hG.c1⟩
  have HN8 : Hid (1 ≤ n ∧ n ≤ 8) := by rw [hn]; exact ⟨hG.n1, hG.n8⟩
  have HNO := hidden hN
  have HRO := hidden hR
  have MC := hidden (Ob.marked hN HLK.out HD1.out)
  clear h hFC hFD hL hLk hnx hsc hn hN hR hG
  go_enter Try.func13, Try.ntmps13
  go_wp2_with fail
  refine Calls.mono MC.out ?_
  rintro e X1 ⟨u1, b, rfl, hT1, hB1⟩
  have HB1 := hidden hB1
  have MD := hidden (fun W1 (hB : Below w.heap.size w W1) => Ob.r_marked (HRO.out.later hB) HLK.out)
  obtain ⟨y, a1, n1, c1, rfl, hr1, hy⟩ := to_open hT1
  have HR1 := hidden hr1
  have HYY := hidden hy
  obtain ⟨mkv, hmk⟩ : ∃ mkv, mkv = Ob.mk L := ⟨_, rfl⟩
  rw [← hmk]
  have HMK := hidden hmk
  clear hT1 hB1 MC hmk hr1 hy
  obtain ⟨b6, hb6⟩ : ∃ b6, b6 = X1.heap.size := ⟨_, rfl⟩
  unfold ov
  go_upto_region 2 with fail
  obtain ⟨W1, hW1⟩ : ∃ W1, W1 = X1.alloc (.cells (oc y (.slice a1 n1 c1)) 59) := ⟨_, rfl⟩
  have hBa : Below X1.heap.size X1 W1 := by rw [hW1]; exact (Below.refl _ _).alloc (Nat.le_refl _) _
  have H6 : Hid (Has W1 b6 (oc y (.slice a1 n1 c1)) 59) := by rw [hb6, hW1]; exact Has.new _ _ _
  have HBA := hidden hBa
  have HBW1 := hidden (HB1.out.trans (hBa.mono HB1.out.size))
  unfold oc at hW1
  rw [← hW1, ← hb6]
  have MD1 := hidden (MD.out W1 HBW1.out)
  clear hBa hW1 hb6 MD
  go_wp2_with fail
  refine Calls.mono MD1.out ?_
  rintro e X2 ⟨u2, b', rfl, hT2, hB2⟩
  obtain ⟨a2, n2, c2, rfl, rfl, hr2⟩ := to_second HYY.out hT2
  rw [← HMK.out]
  have HB2 := hidden (HBW1.out.trans (hB2.mono HBW1.out.size))
  have HR2 := hidden hr2
  have HR1 := hidden ((HR1.out.later HBA.out).later hB2)
  have H6 := hidden (H6.out.later hB2)
  clear hT2 hr2 hB2 MD1 HBA HBW1 HB1 HYY
  obtain ⟨b9, hb9⟩ : ∃ b9, b9 = X2.heap.size := ⟨_, rfl⟩
  unfold ov
  go_upto_region 3 with fail
  obtain ⟨W3, hW3⟩ : ∃ W3, W3 = X2.alloc (.cells (oc y (.slice a2 n2 c2)) 59) := ⟨_, rfl⟩
  have hBb : Below X2.heap.size X2 W3 := by rw [hW3]; exact (Below.refl _ _).alloc (Nat.le_refl _) _
  have H9 : Hid (Has W3 b9 (oc y (.slice a2 n2 c2)) 59) := by rw [hb9, hW3]; exact Has.new _ _ _
  have HB3 := hidden (HB2.out.trans (hBb.mono HB2.out.size))
  have H6 := hidden (H6.out.later hBb)
  have HR1 := hidden (HR1.out.later hBb)
  have HR2 := hidden (HR2.out.later hBb)
  unfold oc at hW3
  rw [← hW3, ← hb9]
  clear hBb hW3 hb9
  have HNO := hidden (HNO.out.later HB3.out)
  have HRO := hidden (HRO.out.later HB3.out)
  obtain ⟨aa, ca, hv, _⟩ := HRO.out.rw_.slice
  rw [HRO.out.len] at hv
  obtain ⟨va, hva⟩ : ∃ va, va = aa := ⟨_, rfl⟩
  obtain ⟨z, hz⟩ : ∃ z, z = L.length := ⟨_, rfl⟩
  rw [← hz] at hv
  have HZ := hidden hz
  subst hv
  obtain ⟨vc, hvc⟩ : ∃ vc, vc = ca := ⟨_, rfl⟩
  rw [← hva, ← hvc] at HRO
  obtain ⟨tt, htt⟩ : ∃ tt, tt = tot (fun k => fl L k) n := ⟨_, rfl⟩
  have HTT := hidden htt
  clear hva hvc hz htt
  have HY1 : Hid (∀ X, Below W3.heap.size W3 X → (Instr.loadAt 59 (.pointer (some ⟨b6, 0, none⟩))).run Try.prog X = .ok (ov y (.slice a1 n1 c1)) X) := fun X hX => load_oc (H6.out.later hX)
  have HY2 : Hid (∀ X, Below W3.heap.size W3 X → (Instr.loadAt 59 (.pointer (some ⟨b9, 0, none⟩))).run Try.prog X = .ok (ov y (.slice a2 n2 c2)) X) := fun X hX => load_oc (H9.out.later hX)
  have HRC : Hid (∀ X, Below W3.heap.size W3 X → (Instr.loadAt 22 (.pointer (some ⟨r, 1, none⟩))).run Try.prog X = .ok (.int .u32 sc) X) := fun X hX => by
    have := (HRO.out.later hX).q.cell 1 rfl
    simp [go_sem, this]
  have HRL : Hid (∀ X, Below W3.heap.size W3 X → (Instr.loadAt 55 (.pointer (some ⟨r, 2, none⟩))).run Try.prog X = .ok (.slice va z vc) X) := fun X hX => by
    have := (HRO.out.later hX).q.cell 2 rfl
    simp [go_sem, this]
  have SM : Hid (∀ X, Below W3.heap.size W3 X → Calls Try.prog 31 #[ov y (.slice a1 n1 c1), ov y (.slice a2 n2 c2)] X fun e w' => e = .returned (.bool true) ∧ Below X.heap.size X w') := fun X hX => r_same y (HR1.out.later hX) (HR2.out.later hX)
  have CUM : Hid (∀ X, Below W3.heap.size W3 X → Calls Try.prog 19 #[.pointer (some ⟨t, 0, none⟩)] X fun e w' => e = .returned (.int .u32 sc) ∧ Below X.heap.size X w') := fun X hX => (Ob.cum (HNO.out.later hX) (by have := HLEN.out; omega)).mono (by
    rintro e w' ⟨rfl, k, rfl⟩
    have h1 := HNX.out
    have h2 := HSC.out
    have h3 := HLEN.out
    refine ⟨by rw [show (nx - (L.length : Int) - 1) % 4294967296 = sc by omega], Ob.Below.drewN (Below.refl _ _) _⟩)
  have NXC : Hid (∀ X, Below W3.heap.size W3 X → Calls Try.prog 15 #[.pointer (some ⟨t, 0, none⟩)] X fun e w' => e = .returned (.int .u32 nx) ∧ Below X.heap.size X w') := fun X hX => (Ob.next (HNO.out.later hX)).mono (by rintro e w' ⟨rfl, rfl⟩; exact ⟨rfl, Below.refl _ _⟩)
  have NXD : Hid (∀ X, Below W3.heap.size W3 X → Calls Try.prog 36 #[.pointer (some ⟨r, 0, none⟩)] X fun e w' => e = .returned (.int .u32 nx) ∧ Below X.heap.size X w') := fun X hX => (Ob.r_next (HRO.out.later hX) HSC.out (by have := HLEN.out; omega)).mono (by rintro e w' ⟨rfl, hB⟩; exact ⟨by rw [HNX.out], hB⟩)
  have LEC : Hid (∀ X, Below W3.heap.size W3 X → Calls Try.prog 14 #[.pointer (some ⟨t, 0, none⟩)] X fun e w' => e = .returned (.int .i64 (z : Int)) ∧ Below X.heap.size X w') := fun X hX => (Ob.len (HNO.out.later hX)).mono (by rintro e w' ⟨rfl, rfl⟩; exact ⟨by rw [HZ.out], Below.refl _ _⟩)
  have TOC : Hid (∀ X, Below W3.heap.size W3 X → Calls Try.prog 28 #[.pointer (some ⟨t, 0, none⟩)] X fun e w' => e = .returned (.int .i64 tt) ∧ Below X.heap.size X w') := fun X hX => (Ob.total (HNO.out.later hX) HN8.out.2 (fun k _ => by have := HLK.out.fl (k : Int); omega)).mono (by rintro e w' ⟨rfl, rfl⟩; exact ⟨by rw [HTT.out], Below.refl _ _⟩)
  have TOD : Hid (∀ X, Below W3.heap.size W3 X → Calls Try.prog 37 #[.pointer (some ⟨r, 0, none⟩)] X fun e w' => e = .returned (.int .i64 tt) ∧ Below X.heap.size X w') := fun X hX => (Ob.r_total (HRO.out.later hX) HLK.out HN8.out.2).mono (by rintro e w' ⟨rfl, hB⟩; exact ⟨by rw [HTT.out], hB⟩)
  have ALC : Hid (∀ X, Below W3.heap.size W3 X → Calls Try.prog 16 #[.pointer (some ⟨t, 0, none⟩)] X fun e w' => ∃ v, e = .returned v ∧ Ls w' v L ∧ Below X.heap.size X w') := fun X hX => (Ob.all (HNO.out.later hX) (by have := HLEN.out; omega) HD1.out).mono (by rintro e w' ⟨v, rfl, hT, hB⟩; exact ⟨v, rfl, hT.ls, hB⟩)
  have ASD : Hid (∀ X v, Below W3.heap.size W3 X → Ls X v L → Calls Try.prog 22 #[v, .slice va z vc] X fun e w' => e = .returned (.bool true) ∧ Below X.heap.size X w') := fun X v hX hl => r_all_same hl (HRO.out.later hX).ls (by have := HLEN.out; omega)
  have ESM : Hid (∀ (args : Array Value) (w : World), (callFunc 31 args).run Try.prog w = .ok (.enter 31 args) w) := enters_of Try.func31 (by kernel_rfl) rfl
  have ECU : Hid (∀ (args : Array Value) (w : World), (callFunc 19 args).run Try.prog w = .ok (.enter 19 args) w) := enters_of Try.func19 (by kernel_rfl) rfl
  have ENC : Hid (∀ (args : Array Value) (w : World), (callFunc 15 args).run Try.prog w = .ok (.enter 15 args) w) := enters_of Try.func15 (by kernel_rfl) rfl
  have END : Hid (∀ (args : Array Value) (w : World), (callFunc 36 args).run Try.prog w = .ok (.enter 36 args) w) := enters_of Try.func36 (by kernel_rfl) rfl
  have ELC : Hid (∀ (args : Array Value) (w : World), (callFunc 14 args).run Try.prog w = .ok (.enter 14 args) w) := enters_of Try.func14 (by kernel_rfl) rfl
  have ETC : Hid (∀ (args : Array Value) (w : World), (callFunc 28 args).run Try.prog w = .ok (.enter 28 args) w) := enters_of Try.func28 (by kernel_rfl) rfl
  have ETD : Hid (∀ (args : Array Value) (w : World), (callFunc 37 args).run Try.prog w = .ok (.enter 37 args) w) := enters_of Try.func37 (by kernel_rfl) rfl
  have EAL : Hid (∀ (args : Array Value) (w : World), (callFunc 16 args).run Try.prog w = .ok (.enter 16 args) w) := enters_of Try.func16 (by kernel_rfl) rfl
  have EAS : Hid (∀ (args : Array Value) (w : World), (callFunc 22 args).run Try.prog w = .ok (.enter 22 args) w) := enters_of Try.func22 (by kernel_rfl) rfl
  refine Ord.wp_region_ex0 (X := Value) (by kernel_rfl) 123 (fun xq => [(some 28, .int .i64 mkv), (some 29, .int .i64 mkv), (some 30, .bool false), (some 31, .bool false), (some 32, ov y (.slice a1 n1 c1)), (some 33, ov y (.slice a2 n2 c2)), (some 34, .bool true), (some 35, .bool false), (some 36, .bool false), (some 37, .bool false), (some 38, .bool b), (some 39, .bool b), (some 40, .bool false), (some 41, .bool false), (some 42, .bool false), (some 43, .pointer (some ⟨t, 0, none⟩)), (some 44, .int .u32 sc), (some 45, .pointer (some ⟨r, 0, none⟩)), (some 46, .pointer (some ⟨r, 0, none⟩)), (some 47, .pointer (some ⟨r, 1, none⟩)), (some 48, .int .u32 sc), (some 49, .bool false), (some 50, .bool false), (some 51, .bool false), (some 52, .pointer (some ⟨t, 0, none⟩)), (some 53, .int .u32 nx), (some 54, .pointer (some ⟨r, 0, none⟩)), (some 55, .int .u32 nx), (some 56, .bool false), (some 57, .bool false), (some 58, .bool false), (some 59, .pointer (some ⟨t, 0, none⟩)), (some 60, .int .i64 (z : Int)), (some 61, .pointer (some ⟨r, 0, none⟩)), (some 62, .pointer (some ⟨r, 0, none⟩)), (some 63, .pointer (some ⟨r, 2, none⟩)), (some 64, .slice va z vc), (some 65, .int .i64 (z : Int)), (some 66, .bool false), (some 67, .bool false), (some 68, .bool false), (some 69, .pointer (some ⟨t, 0, none⟩)), (some 70, .int .i64 tt), (some 71, .pointer (some ⟨r, 0, none⟩)), (some 72, .int .i64 tt), (some 73, .bool false), (some 74, .bool false), (some 75, .bool false), (some 76, .pointer (some ⟨t, 0, none⟩)), (some 77, xq), (some 78, .pointer (some ⟨r, 0, none⟩)), (some 79, .pointer (some ⟨r, 0, none⟩)), (some 80, .pointer (some ⟨r, 2, none⟩)), (some 81, .slice va z vc), (some 82, .bool true), (some 83, .bool false), (some 84, .bool false)]) [some 28, some 29, some 30, some 31, some 32, some 33, some 34, some 35, some 36, some 37, some 38, some 39, some 40, some 41, some 42, some 43, some 44, some 45, some 46, some 47, some 48, some 49, some 50, some 51, some 52, some 53, some 54, some 55, some 56, some 57, some 58, some 59, some 60, some 61, some 62, some 63, some 64, some 65, some 66, some 67, some 68, some 69, some 70, some 71, some 72, some 73, some 74, some 75, some 76, some 77, some 78, some 79, some 80, some 81, some 82, some 83, some 84] rfl (fun listed hsz hr => Ord.all_listedC (rank := [0, 1, 2, 3, 4, 5, 6, 7, 8, 9, 10, 11, 12, 13, 14, 15, 16, 17, 18, 19, 20, 21, 22, 23, 24, 25, 26, 27, 28, 29, 30, 31, 32, 33, 34, 35, 36, 37, 38, 39, 40, 41, 42, 43, 44, 45, 46, 47, 48, 49, 50, 51, 52, 53, 54, 55, 56]) (by kernel_rfl) hsz hr) (by rfl) (fun _ => rfl) (by kernel_rfl) (Rg.StM [6, 16, 25, 27, 32, 42, 44, 49, 54] (fun sk sx w' => Below W3.heap.size W3 w' ∧ (8 ≤ sk → Ls w' sx L))) (fun _ _ _ _ hL h => h.ext (n := 57) (by decide) hL) ?_ ?_ undef ?_
  case refine_1 =>
    intro xq Lq iq oq ac w' ho hi hcl hdep hF hW
    have f1 : ac.tmps.size = 123 := hF.1
    match iq, ho, hi, hdep with
    | 0, ho, hi, hdep =>
      cases ho
      have da0 : ac.eval (.tmp 5) = .int .i64 mkv := hF.old 5 rfl
      exact Ord.ex_value xq rfl rfl (Rg.mv da0 rfl) rfl (hW.keep (by decide))
    | 1, ho, hi, hdep =>
      cases ho
      have da0 : ac.eval (.tmp 8) = .int .i64 mkv := hF.old 8 rfl
      exact Ord.ex_value xq rfl rfl (Rg.mv da0 rfl) rfl (hW.keep (by decide))
    | 2, ho, hi, hdep =>
      cases ho
      have da0 : ac.eval (.tmp 28) = .int .i64 mkv := hF.2.2.2 0 28 _ rfl (hdep ⟨0, .data⟩ (by simp) rfl)
      have da1 : ac.eval (.tmp 29) = .int .i64 mkv := hF.2.2.2 1 29 _ rfl (hdep ⟨1, .data⟩ (by simp) rfl)
      exact Ord.ex_value xq rfl rfl (Rg.bin da0 da1 rfl (by simp [go_sem])) rfl (hW.keep (by decide))
    | 3, ho, hi, hdep =>
      cases ho
      have da0 : ac.eval (.tmp 30) = .bool false := hF.2.2.2 2 30 _ rfl (hdep ⟨2, .data⟩ (by simp) rfl)
      exact Ord.ex_value xq rfl rfl (Rg.mv da0 rfl) rfl (hW.keep (by decide))
    | 4, ho, hi, hdep =>
      cases ho
      have dg : ac.eval (.tmp 31) = .bool false := hF.2.2.2 3 31 _ rfl (hdep ⟨3, .guard⟩ (by simp) rfl)
      have da0 : ac.eval (.tmp 6) = .pointer (some ⟨b6, 0, none⟩) := hF.old 6 rfl
      obtain ⟨kq, hlo, hhi, hA⟩ := hW.range 0 0 (.inl rfl) (.inr ⟨6, rfl, (Rg.no_of (fun h => hcl 6 _ rfl (h) ⟨4, .data⟩ (by simp) rfl) hi)⟩)
      exact Ord.ex_value xq rfl (Ord.wanted_of dg (by rw [f1]; decide) rfl rfl) (Rg.load da0 rfl (HY1.out _ hA.1)) rfl (hW.keep (by decide))
    | 5, ho, hi, hdep =>
      cases ho
      have dg : ac.eval (.tmp 31) = .bool false := hF.2.2.2 3 31 _ rfl (hdep ⟨3, .guard⟩ (by simp) rfl)
      have da0 : ac.eval (.tmp 9) = .pointer (some ⟨b9, 0, none⟩) := hF.old 9 rfl
      obtain ⟨kq, hlo, hhi, hA⟩ := hW.range 0 0 (.inl rfl) (.inr ⟨6, rfl, (Rg.no_of (fun h => hcl 6 _ rfl (h) ⟨5, .data⟩ (by simp) rfl) hi)⟩)
      exact Ord.ex_value xq rfl (Ord.wanted_of dg (by rw [f1]; decide) rfl rfl) (Rg.load da0 rfl (HY2.out _ hA.1)) rfl (hW.keep (by decide))
    | 6, ho, hi, hdep =>
      cases ho
      have dg : ac.eval (.tmp 31) = .bool false := hF.2.2.2 3 31 _ rfl (hdep ⟨3, .guard⟩ (by simp) rfl)
      have da0 : ac.eval (.tmp 32) = ov y (.slice a1 n1 c1) := hF.2.2.2 4 32 _ rfl (hdep ⟨4, .data⟩ (by simp) rfl)
      have da1 : ac.eval (.tmp 33) = ov y (.slice a2 n2 c2) := hF.2.2.2 5 33 _ rfl (hdep ⟨5, .data⟩ (by simp) rfl)
      have hA := hW.at (k := 0) rfl hi (.inl rfl)
      exact Rg.ex_call xq rfl (Ord.wanted_of dg (by rw [f1]; decide) rfl rfl) (Rg.enter (args := #[ov y (.slice a1 n1 c1), ov y (.slice a2 n2 c2)]) rfl rfl (by simp [da0, da1]) ESM.out) (Calls.mono (SM.out _ hA.1) (by rintro e w2 ⟨rfl, hB⟩; exact ⟨rfl, hW.next (k := 0) rfl (by decide) hi (.inl rfl) ⟨hA.1.trans (hB.mono hA.1.size), fun e => absurd e (by decide)⟩⟩))
    | 7, ho, hi, hdep =>
      cases ho
      have dg : ac.eval (.tmp 31) = .bool false := hF.2.2.2 3 31 _ rfl (hdep ⟨3, .guard⟩ (by simp) rfl)
      have da0 : ac.eval (.tmp 34) = .bool true := hF.2.2.2 6 34 _ rfl (hdep ⟨6, .data⟩ (by simp) rfl)
      exact Ord.ex_value xq rfl (Ord.wanted_of dg (by rw [f1]; decide) rfl rfl) (Rg.not_ da0 rfl) rfl (hW.keep (by decide))
    | 8, ho, hi, hdep =>
      cases ho
      have da0 : ac.eval (.tmp 31) = .bool false := hF.2.2.2 3 31 _ rfl (hdep ⟨3, .data⟩ (by simp) rfl)
      have da1 : ac.eval (.tmp 35) = .bool false := hF.2.2.2 7 35 _ rfl (hdep ⟨7, .data⟩ (by simp) rfl)
      exact Ord.ex_value xq rfl rfl (Rg.pick_f da0 da1 rfl) rfl (hW.keep (by decide))
    | 9, ho, hi, hdep =>
      cases ho
      have da0 : ac.eval (.tmp 36) = .bool false := hF.2.2.2 8 36 _ rfl (hdep ⟨8, .data⟩ (by simp) rfl)
      exact Ord.ex_value xq rfl rfl (Rg.mv da0 rfl) rfl (hW.keep (by decide))
    | 10, ho, hi, hdep =>
      cases ho
      have dg : ac.eval (.tmp 37) = .bool false := hF.2.2.2 9 37 _ rfl (hdep ⟨9, .guard⟩ (by simp) rfl)
      have da0 : ac.eval (.tmp 7) = .bool b := hF.old 7 rfl
      exact Ord.ex_value xq rfl (Ord.wanted_of dg (by rw [f1]; decide) rfl rfl) (Rg.mv da0 rfl) rfl (hW.keep (by decide))
    | 11, ho, hi, hdep =>
      cases ho
      have dg : ac.eval (.tmp 37) = .bool false := hF.2.2.2 9 37 _ rfl (hdep ⟨9, .guard⟩ (by simp) rfl)
      have da0 : ac.eval (.tmp 10) = .bool b := hF.old 10 rfl
      exact Ord.ex_value xq rfl (Ord.wanted_of dg (by rw [f1]; decide) rfl rfl) (Rg.mv da0 rfl) rfl (hW.keep (by decide))
    | 12, ho, hi, hdep =>
      cases ho
      have dg : ac.eval (.tmp 37) = .bool false := hF.2.2.2 9 37 _ rfl (hdep ⟨9, .guard⟩ (by simp) rfl)
      have da0 : ac.eval (.tmp 38) = .bool b := hF.2.2.2 10 38 _ rfl (hdep ⟨10, .data⟩ (by simp) rfl)
      have da1 : ac.eval (.tmp 39) = .bool b := hF.2.2.2 11 39 _ rfl (hdep ⟨11, .data⟩ (by simp) rfl)
      exact Ord.ex_value xq rfl (Ord.wanted_of dg (by rw [f1]; decide) rfl rfl) (Rg.bin da0 da1 rfl (by simp [go_sem])) rfl (hW.keep (by decide))
    | 13, ho, hi, hdep =>
      cases ho
      have da0 : ac.eval (.tmp 37) = .bool false := hF.2.2.2 9 37 _ rfl (hdep ⟨9, .data⟩ (by simp) rfl)
      have da1 : ac.eval (.tmp 40) = .bool false := hF.2.2.2 12 40 _ rfl (hdep ⟨12, .data⟩ (by simp) rfl)
      exact Ord.ex_value xq rfl rfl (Rg.pick_f da0 da1 rfl) rfl (hW.keep (by decide))
    | 14, ho, hi, hdep =>
      cases ho
      have da0 : ac.eval (.tmp 41) = .bool false := hF.2.2.2 13 41 _ rfl (hdep ⟨13, .data⟩ (by simp) rfl)
      exact Ord.ex_value xq rfl rfl (Rg.mv da0 rfl) rfl (hW.keep (by decide))
    | 15, ho, hi, hdep =>
      cases ho
      have dg : ac.eval (.tmp 42) = .bool false := hF.2.2.2 14 42 _ rfl (hdep ⟨14, .guard⟩ (by simp) rfl)
      have da0 : ac.eval (.tmp 0) = .pointer (some ⟨t, 0, none⟩) := hF.old 0 rfl
      exact Ord.ex_value xq rfl (Ord.wanted_of dg (by rw [f1]; decide) rfl rfl) (Rg.mv da0 rfl) rfl (hW.keep (by decide))
    | 16, ho, hi, hdep =>
      cases ho
      have dg : ac.eval (.tmp 42) = .bool false := hF.2.2.2 14 42 _ rfl (hdep ⟨14, .guard⟩ (by simp) rfl)
      have da0 : ac.eval (.tmp 43) = .pointer (some ⟨t, 0, none⟩) := hF.2.2.2 15 43 _ rfl (hdep ⟨15, .data⟩ (by simp) rfl)
      have hA := hW.at (k := 1) rfl hi (.inr ⟨6, rfl, (hcl 9 _ rfl (hcl 14 _ rfl (hdep ⟨14, .chain⟩ (by simp) rfl) ⟨9, .chain⟩ (by simp) rfl) ⟨6, .chain⟩ (by simp) rfl)⟩)
      exact Rg.ex_call xq rfl (Ord.wanted_of dg (by rw [f1]; decide) rfl rfl) (Rg.enter (args := #[.pointer (some ⟨t, 0, none⟩)]) rfl rfl (by simp [da0]) ECU.out) (Calls.mono (CUM.out _ hA.1) (by rintro e w2 ⟨rfl, hB⟩; exact ⟨rfl, hW.next (k := 1) rfl (by decide) hi (.inr ⟨6, rfl, (hcl 9 _ rfl (hcl 14 _ rfl (hdep ⟨14, .chain⟩ (by simp) rfl) ⟨9, .chain⟩ (by simp) rfl) ⟨6, .chain⟩ (by simp) rfl)⟩) ⟨hA.1.trans (hB.mono hA.1.size), fun e => absurd e (by decide)⟩⟩))
    | 17, ho, hi, hdep =>
      cases ho
      have dg : ac.eval (.tmp 42) = .bool false := hF.2.2.2 14 42 _ rfl (hdep ⟨14, .guard⟩ (by simp) rfl)
      have da0 : ac.eval (.tmp 1) = .pointer (some ⟨r, 0, none⟩) := hF.old 1 rfl
      exact Ord.ex_value xq rfl (Ord.wanted_of dg (by rw [f1]; decide) rfl rfl) (Rg.mv da0 rfl) rfl (hW.keep (by decide))
    | 18, ho, hi, hdep =>
      cases ho
      have dg : ac.eval (.tmp 42) = .bool false := hF.2.2.2 14 42 _ rfl (hdep ⟨14, .guard⟩ (by simp) rfl)
      have da0 : ac.eval (.tmp 45) = .pointer (some ⟨r, 0, none⟩) := hF.2.2.2 17 45 _ rfl (hdep ⟨17, .data⟩ (by simp) rfl)
      exact Ord.ex_value xq rfl (Ord.wanted_of dg (by rw [f1]; decide) rfl rfl) (Rg.nilc da0 rfl) rfl (hW.keep (by decide))
    | 19, ho, hi, hdep =>
      cases ho
      have dg : ac.eval (.tmp 42) = .bool false := hF.2.2.2 14 42 _ rfl (hdep ⟨14, .guard⟩ (by simp) rfl)
      have da0 : ac.eval (.tmp 46) = .pointer (some ⟨r, 0, none⟩) := hF.2.2.2 18 46 _ rfl (hdep ⟨18, .data⟩ (by simp) rfl)
      exact Ord.ex_value xq rfl (Ord.wanted_of dg (by rw [f1]; decide) rfl rfl) (Rg.fa da0 rfl (by simp [go_sem])) rfl (hW.keep (by decide))
    | 20, ho, hi, hdep =>
      cases ho
      have dg : ac.eval (.tmp 42) = .bool false := hF.2.2.2 14 42 _ rfl (hdep ⟨14, .guard⟩ (by simp) rfl)
      have da0 : ac.eval (.tmp 47) = .pointer (some ⟨r, 1, none⟩) := hF.2.2.2 19 47 _ rfl (hdep ⟨19, .data⟩ (by simp) rfl)
      obtain ⟨kq, hlo, hhi, hA⟩ := hW.range 1 2 (.inr ⟨6, rfl, (hcl 9 _ rfl (hcl 14 _ rfl (hdep ⟨14, .guard⟩ (by simp) rfl) ⟨9, .chain⟩ (by simp) rfl) ⟨6, .chain⟩ (by simp) rfl)⟩) (.inr ⟨25, rfl, (Rg.no_of (fun h => hcl 21 _ rfl (hcl 22 _ rfl (hcl 23 _ rfl (hcl 25 _ rfl (h) ⟨23, .chain⟩ (by simp) rfl) ⟨22, .data⟩ (by simp) rfl) ⟨21, .data⟩ (by simp) rfl) ⟨20, .data⟩ (by simp) rfl) hi)⟩)
      exact Ord.ex_value xq rfl (Ord.wanted_of dg (by rw [f1]; decide) rfl rfl) (Rg.load da0 rfl (HRC.out _ hA.1)) rfl (hW.keep (by decide))
    | 21, ho, hi, hdep =>
      cases ho
      have dg : ac.eval (.tmp 42) = .bool false := hF.2.2.2 14 42 _ rfl (hdep ⟨14, .guard⟩ (by simp) rfl)
      have da0 : ac.eval (.tmp 44) = .int .u32 sc := hF.2.2.2 16 44 _ rfl (hdep ⟨16, .data⟩ (by simp) rfl)
      have da1 : ac.eval (.tmp 48) = .int .u32 sc := hF.2.2.2 20 48 _ rfl (hdep ⟨20, .data⟩ (by simp) rfl)
      exact Ord.ex_value xq rfl (Ord.wanted_of dg (by rw [f1]; decide) rfl rfl) (Rg.bin da0 da1 rfl (by simp [go_sem])) rfl (hW.keep (by decide))
    | 22, ho, hi, hdep =>
      cases ho
      have da0 : ac.eval (.tmp 42) = .bool false := hF.2.2.2 14 42 _ rfl (hdep ⟨14, .data⟩ (by simp) rfl)
      have da1 : ac.eval (.tmp 49) = .bool false := hF.2.2.2 21 49 _ rfl (hdep ⟨21, .data⟩ (by simp) rfl)
      exact Ord.ex_value xq rfl rfl (Rg.pick_f da0 da1 rfl) rfl (hW.keep (by decide))
    | 23, ho, hi, hdep =>
      cases ho
      have da0 : ac.eval (.tmp 50) = .bool false := hF.2.2.2 22 50 _ rfl (hdep ⟨22, .data⟩ (by simp) rfl)
      exact Ord.ex_value xq rfl rfl (Rg.mv da0 rfl) rfl (hW.keep (by decide))
    | 24, ho, hi, hdep =>
      cases ho
      have dg : ac.eval (.tmp 51) = .bool false := hF.2.2.2 23 51 _ rfl (hdep ⟨23, .guard⟩ (by simp) rfl)
      have da0 : ac.eval (.tmp 0) = .pointer (some ⟨t, 0, none⟩) := hF.old 0 rfl
      exact Ord.ex_value xq rfl (Ord.wanted_of dg (by rw [f1]; decide) rfl rfl) (Rg.mv da0 rfl) rfl (hW.keep (by decide))
    | 25, ho, hi, hdep =>
      cases ho
      have dg : ac.eval (.tmp 51) = .bool false := hF.2.2.2 23 51 _ rfl (hdep ⟨23, .guard⟩ (by simp) rfl)
      have da0 : ac.eval (.tmp 52) = .pointer (some ⟨t, 0, none⟩) := hF.2.2.2 24 52 _ rfl (hdep ⟨24, .data⟩ (by simp) rfl)
      have hA := hW.at (k := 2) rfl hi (.inr ⟨16, rfl, (hcl 23 _ rfl (hdep ⟨23, .chain⟩ (by simp) rfl) ⟨16, .chain⟩ (by simp) rfl)⟩)
      exact Rg.ex_call xq rfl (Ord.wanted_of dg (by rw [f1]; decide) rfl rfl) (Rg.enter (args := #[.pointer (some ⟨t, 0, none⟩)]) rfl rfl (by simp [da0]) ENC.out) (Calls.mono (NXC.out _ hA.1) (by rintro e w2 ⟨rfl, hB⟩; exact ⟨rfl, hW.next (k := 2) rfl (by decide) hi (.inr ⟨16, rfl, (hcl 23 _ rfl (hdep ⟨23, .chain⟩ (by simp) rfl) ⟨16, .chain⟩ (by simp) rfl)⟩) ⟨hA.1.trans (hB.mono hA.1.size), fun e => absurd e (by decide)⟩⟩))
    | 26, ho, hi, hdep =>
      cases ho
      have dg : ac.eval (.tmp 51) = .bool false := hF.2.2.2 23 51 _ rfl (hdep ⟨23, .guard⟩ (by simp) rfl)
      have da0 : ac.eval (.tmp 1) = .pointer (some ⟨r, 0, none⟩) := hF.old 1 rfl
      exact Ord.ex_value xq rfl (Ord.wanted_of dg (by rw [f1]; decide) rfl rfl) (Rg.mv da0 rfl) rfl (hW.keep (by decide))
    | 27, ho, hi, hdep =>
      cases ho
      have dg : ac.eval (.tmp 51) = .bool false := hF.2.2.2 23 51 _ rfl (hdep ⟨23, .guard⟩ (by simp) rfl)
      have da0 : ac.eval (.tmp 54) = .pointer (some ⟨r, 0, none⟩) := hF.2.2.2 26 54 _ rfl (hdep ⟨26, .data⟩ (by simp) rfl)
      have hA := hW.at (k := 3) rfl hi (.inr ⟨25, rfl, (hdep ⟨25, .chain⟩ (by simp) rfl)⟩)
      exact Rg.ex_call xq rfl (Ord.wanted_of dg (by rw [f1]; decide) rfl rfl) (Rg.enter (args := #[.pointer (some ⟨r, 0, none⟩)]) rfl rfl (by simp [da0]) END.out) (Calls.mono (NXD.out _ hA.1) (by rintro e w2 ⟨rfl, hB⟩; exact ⟨rfl, hW.next (k := 3) rfl (by decide) hi (.inr ⟨25, rfl, (hdep ⟨25, .chain⟩ (by simp) rfl)⟩) ⟨hA.1.trans (hB.mono hA.1.size), fun e => absurd e (by decide)⟩⟩))
    | 28, ho, hi, hdep =>
      cases ho
      have dg : ac.eval (.tmp 51) = .bool false := hF.2.2.2 23 51 _ rfl (hdep ⟨23, .guard⟩ (by simp) rfl)
      have da0 : ac.eval (.tmp 53) = .int .u32 nx := hF.2.2.2 25 53 _ rfl (hdep ⟨25, .data⟩ (by simp) rfl)
      have da1 : ac.eval (.tmp 55) = .int .u32 nx := hF.2.2.2 27 55 _ rfl (hdep ⟨27, .data⟩ (by simp) rfl)
      exact Ord.ex_value xq rfl (Ord.wanted_of dg (by rw [f1]; decide) rfl rfl) (Rg.bin da0 da1 rfl (by simp [go_sem])) rfl (hW.keep (by decide))
    | 29, ho, hi, hdep =>
      cases ho
      have da0 : ac.eval (.tmp 51) = .bool false := hF.2.2.2 23 51 _ rfl (hdep ⟨23, .data⟩ (by simp) rfl)
      have da1 : ac.eval (.tmp 56) = .bool false := hF.2.2.2 28 56 _ rfl (hdep ⟨28, .data⟩ (by simp) rfl)
      exact Ord.ex_value xq rfl rfl (Rg.pick_f da0 da1 rfl) rfl (hW.keep (by decide))
    | 30, ho, hi, hdep =>
      cases ho
      have da0 : ac.eval (.tmp 57) = .bool false := hF.2.2.2 29 57 _ rfl (hdep ⟨29, .data⟩ (by simp) rfl)
      exact Ord.ex_value xq rfl rfl (Rg.mv da0 rfl) rfl (hW.keep (by decide))
    | 31, ho, hi, hdep =>
      cases ho
      have dg : ac.eval (.tmp 58) = .bool false := hF.2.2.2 30 58 _ rfl (hdep ⟨30, .guard⟩ (by simp) rfl)
      have da0 : ac.eval (.tmp 0) = .pointer (some ⟨t, 0, none⟩) := hF.old 0 rfl
      exact Ord.ex_value xq rfl (Ord.wanted_of dg (by rw [f1]; decide) rfl rfl) (Rg.mv da0 rfl) rfl (hW.keep (by decide))
    | 32, ho, hi, hdep =>
      cases ho
      have dg : ac.eval (.tmp 58) = .bool false := hF.2.2.2 30 58 _ rfl (hdep ⟨30, .guard⟩ (by simp) rfl)
      have da0 : ac.eval (.tmp 59) = .pointer (some ⟨t, 0, none⟩) := hF.2.2.2 31 59 _ rfl (hdep ⟨31, .data⟩ (by simp) rfl)
      have hA := hW.at (k := 4) rfl hi (.inr ⟨27, rfl, (hcl 30 _ rfl (hdep ⟨30, .chain⟩ (by simp) rfl) ⟨27, .chain⟩ (by simp) rfl)⟩)
      exact Rg.ex_call xq rfl (Ord.wanted_of dg (by rw [f1]; decide) rfl rfl) (Rg.enter (args := #[.pointer (some ⟨t, 0, none⟩)]) rfl rfl (by simp [da0]) ELC.out) (Calls.mono (LEC.out _ hA.1) (by rintro e w2 ⟨rfl, hB⟩; exact ⟨rfl, hW.next (k := 4) rfl (by decide) hi (.inr ⟨27, rfl, (hcl 30 _ rfl (hdep ⟨30, .chain⟩ (by simp) rfl) ⟨27, .chain⟩ (by simp) rfl)⟩) ⟨hA.1.trans (hB.mono hA.1.size), fun e => absurd e (by decide)⟩⟩))
    | 33, ho, hi, hdep =>
      cases ho
      have dg : ac.eval (.tmp 58) = .bool false := hF.2.2.2 30 58 _ rfl (hdep ⟨30, .guard⟩ (by simp) rfl)
      have da0 : ac.eval (.tmp 1) = .pointer (some ⟨r, 0, none⟩) := hF.old 1 rfl
      exact Ord.ex_value xq rfl (Ord.wanted_of dg (by rw [f1]; decide) rfl rfl) (Rg.mv da0 rfl) rfl (hW.keep (by decide))
    | 34, ho, hi, hdep =>
      cases ho
      have dg : ac.eval (.tmp 58) = .bool false := hF.2.2.2 30 58 _ rfl (hdep ⟨30, .guard⟩ (by simp) rfl)
      have da0 : ac.eval (.tmp 61) = .pointer (some ⟨r, 0, none⟩) := hF.2.2.2 33 61 _ rfl (hdep ⟨33, .data⟩ (by simp) rfl)
      exact Ord.ex_value xq rfl (Ord.wanted_of dg (by rw [f1]; decide) rfl rfl) (Rg.nilc da0 rfl) rfl (hW.keep (by decide))
    | 35, ho, hi, hdep =>
      cases ho
      have dg : ac.eval (.tmp 58) = .bool false := hF.2.2.2 30 58 _ rfl (hdep ⟨30, .guard⟩ (by simp) rfl)
      have da0 : ac.eval (.tmp 62) = .pointer (some ⟨r, 0, none⟩) := hF.2.2.2 34 62 _ rfl (hdep ⟨34, .data⟩ (by simp) rfl)
      exact Ord.ex_value xq rfl (Ord.wanted_of dg (by rw [f1]; decide) rfl rfl) (Rg.fa da0 rfl (by simp [go_sem])) rfl (hW.keep (by decide))
    | 36, ho, hi, hdep =>
      cases ho
      have dg : ac.eval (.tmp 58) = .bool false := hF.2.2.2 30 58 _ rfl (hdep ⟨30, .guard⟩ (by simp) rfl)
      have da0 : ac.eval (.tmp 63) = .pointer (some ⟨r, 2, none⟩) := hF.2.2.2 35 63 _ rfl (hdep ⟨35, .data⟩ (by simp) rfl)
      obtain ⟨kq, hlo, hhi, hA⟩ := hW.range 4 5 (.inr ⟨27, rfl, (hcl 30 _ rfl (hdep ⟨30, .guard⟩ (by simp) rfl) ⟨27, .chain⟩ (by simp) rfl)⟩) (.inr ⟨42, rfl, (Rg.no_of (fun h => hcl 37 _ rfl (hcl 38 _ rfl (hcl 39 _ rfl (hcl 40 _ rfl (hcl 42 _ rfl (h) ⟨40, .chain⟩ (by simp) rfl) ⟨39, .data⟩ (by simp) rfl) ⟨38, .data⟩ (by simp) rfl) ⟨37, .data⟩ (by simp) rfl) ⟨36, .data⟩ (by simp) rfl) hi)⟩)
      exact Ord.ex_value xq rfl (Ord.wanted_of dg (by rw [f1]; decide) rfl rfl) (Rg.load da0 rfl (HRL.out _ hA.1)) rfl (hW.keep (by decide))
    | 37, ho, hi, hdep =>
      cases ho
      have dg : ac.eval (.tmp 58) = .bool false := hF.2.2.2 30 58 _ rfl (hdep ⟨30, .guard⟩ (by simp) rfl)
      have da0 : ac.eval (.tmp 64) = .slice va z vc := hF.2.2.2 36 64 _ rfl (hdep ⟨36, .data⟩ (by simp) rfl)
      exact Ord.ex_value xq rfl (Ord.wanted_of dg (by rw [f1]; decide) rfl rfl) (Rg.len_ da0 rfl (by simp [go_sem, Builtin.len_])) rfl (hW.keep (by decide))
    | 38, ho, hi, hdep =>
      cases ho
      have dg : ac.eval (.tmp 58) = .bool false := hF.2.2.2 30 58 _ rfl (hdep ⟨30, .guard⟩ (by simp) rfl)
      have da0 : ac.eval (.tmp 60) = .int .i64 (z : Int) := hF.2.2.2 32 60 _ rfl (hdep ⟨32, .data⟩ (by simp) rfl)
      have da1 : ac.eval (.tmp 65) = .int .i64 (z : Int) := hF.2.2.2 37 65 _ rfl (hdep ⟨37, .data⟩ (by simp) rfl)
      exact Ord.ex_value xq rfl (Ord.wanted_of dg (by rw [f1]; decide) rfl rfl) (Rg.bin da0 da1 rfl (by simp [go_sem])) rfl (hW.keep (by decide))
    | 39, ho, hi, hdep =>
      cases ho
      have da0 : ac.eval (.tmp 58) = .bool false := hF.2.2.2 30 58 _ rfl (hdep ⟨30, .data⟩ (by simp) rfl)
      have da1 : ac.eval (.tmp 66) = .bool false := hF.2.2.2 38 66 _ rfl (hdep ⟨38, .data⟩ (by simp) rfl)
      exact Ord.ex_value xq rfl rfl (Rg.pick_f da0 da1 rfl) rfl (hW.keep (by decide))
    | 40, ho, hi, hdep =>
      cases ho
      have da0 : ac.eval (.tmp 67) = .bool false := hF.2.2.2 39 67 _ rfl (hdep ⟨39, .data⟩ (by simp) rfl)
      exact Ord.ex_value xq rfl rfl (Rg.mv da0 rfl) rfl (hW.keep (by decide))
    | 41, ho, hi, hdep =>
      cases ho
      have dg : ac.eval (.tmp 68) = .bool false := hF.2.2.2 40 68 _ rfl (hdep ⟨40, .guard⟩ (by simp) rfl)
      have da0 : ac.eval (.tmp 0) = .pointer (some ⟨t, 0, none⟩) := hF.old 0 rfl
      exact Ord.ex_value xq rfl (Ord.wanted_of dg (by rw [f1]; decide) rfl rfl) (Rg.mv da0 rfl) rfl (hW.keep (by decide))
    | 42, ho, hi, hdep =>
      cases ho
      have dg : ac.eval (.tmp 68) = .bool false := hF.2.2.2 40 68 _ rfl (hdep ⟨40, .guard⟩ (by simp) rfl)
      have da0 : ac.eval (.tmp 69) = .pointer (some ⟨t, 0, none⟩) := hF.2.2.2 41 69 _ rfl (hdep ⟨41, .data⟩ (by simp) rfl)
      have hA := hW.at (k := 5) rfl hi (.inr ⟨32, rfl, (hcl 40 _ rfl (hdep ⟨40, .chain⟩ (by simp) rfl) ⟨32, .chain⟩ (by simp) rfl)⟩)
      exact Rg.ex_call xq rfl (Ord.wanted_of dg (by rw [f1]; decide) rfl rfl) (Rg.enter (args := #[.pointer (some ⟨t, 0, none⟩)]) rfl rfl (by simp [da0]) ETC.out) (Calls.mono (TOC.out _ hA.1) (by rintro e w2 ⟨rfl, hB⟩; exact ⟨rfl, hW.next (k := 5) rfl (by decide) hi (.inr ⟨32, rfl, (hcl 40 _ rfl (hdep ⟨40, .chain⟩ (by simp) rfl) ⟨32, .chain⟩ (by simp) rfl)⟩) ⟨hA.1.trans (hB.mono hA.1.size), fun e => absurd e (by decide)⟩⟩))
    | 43, ho, hi, hdep =>
      cases ho
      have dg : ac.eval (.tmp 68) = .bool false := hF.2.2.2 40 68 _ rfl (hdep ⟨40, .guard⟩ (by simp) rfl)
      have da0 : ac.eval (.tmp 1) = .pointer (some ⟨r, 0, none⟩) := hF.old 1 rfl
      exact Ord.ex_value xq rfl (Ord.wanted_of dg (by rw [f1]; decide) rfl rfl) (Rg.mv da0 rfl) rfl (hW.keep (by decide))
    | 44, ho, hi, hdep =>
      cases ho
      have dg : ac.eval (.tmp 68) = .bool false := hF.2.2.2 40 68 _ rfl (hdep ⟨40, .guard⟩ (by simp) rfl)
      have da0 : ac.eval (.tmp 71) = .pointer (some ⟨r, 0, none⟩) := hF.2.2.2 43 71 _ rfl (hdep ⟨43, .data⟩ (by simp) rfl)
      have hA := hW.at (k := 6) rfl hi (.inr ⟨42, rfl, (hdep ⟨42, .chain⟩ (by simp) rfl)⟩)
      exact Rg.ex_call xq rfl (Ord.wanted_of dg (by rw [f1]; decide) rfl rfl) (Rg.enter (args := #[.pointer (some ⟨r, 0, none⟩)]) rfl rfl (by simp [da0]) ETD.out) (Calls.mono (TOD.out _ hA.1) (by rintro e w2 ⟨rfl, hB⟩; exact ⟨rfl, hW.next (k := 6) rfl (by decide) hi (.inr ⟨42, rfl, (hdep ⟨42, .chain⟩ (by simp) rfl)⟩) ⟨hA.1.trans (hB.mono hA.1.size), fun e => absurd e (by decide)⟩⟩))
    | 45, ho, hi, hdep =>
      cases ho
      have dg : ac.eval (.tmp 68) = .bool false := hF.2.2.2 40 68 _ rfl (hdep ⟨40, .guard⟩ (by simp) rfl)
      have da0 : ac.eval (.tmp 70) = .int .i64 tt := hF.2.2.2 42 70 _ rfl (hdep ⟨42, .data⟩ (by simp) rfl)
      have da1 : ac.eval (.tmp 72) = .int .i64 tt := hF.2.2.2 44 72 _ rfl (hdep ⟨44, .data⟩ (by simp) rfl)
      exact Ord.ex_value xq rfl (Ord.wanted_of dg (by rw [f1]; decide) rfl rfl) (Rg.bin da0 da1 rfl (by simp [go_sem])) rfl (hW.keep (by decide))
    | 46, ho, hi, hdep =>
      cases ho
      have da0 : ac.eval (.tmp 68) = .bool false := hF.2.2.2 40 68 _ rfl (hdep ⟨40, .data⟩ (by simp) rfl)
      have da1 : ac.eval (.tmp 73) = .bool false := hF.2.2.2 45 73 _ rfl (hdep ⟨45, .data⟩ (by simp) rfl)
      exact Ord.ex_value xq rfl rfl (Rg.pick_f da0 da1 rfl) rfl (hW.keep (by decide))
    | 47, ho, hi, hdep =>
      cases ho
      have da0 : ac.eval (.tmp 74) = .bool false := hF.2.2.2 46 74 _ rfl (hdep ⟨46, .data⟩ (by simp) rfl)
      exact Ord.ex_value xq rfl rfl (Rg.mv da0 rfl) rfl (hW.keep (by decide))
    | 48, ho, hi, hdep =>
      cases ho
      have dg : ac.eval (.tmp 75) = .bool false := hF.2.2.2 47 75 _ rfl (hdep ⟨47, .guard⟩ (by simp) rfl)
      have da0 : ac.eval (.tmp 0) = .pointer (some ⟨t, 0, none⟩) := hF.old 0 rfl
      exact Ord.ex_value xq rfl (Ord.wanted_of dg (by rw [f1]; decide) rfl rfl) (Rg.mv da0 rfl) rfl (hW.keep (by decide))
    | 49, ho, hi, hdep =>
      cases ho
      have dg : ac.eval (.tmp 75) = .bool false := hF.2.2.2 47 75 _ rfl (hdep ⟨47, .guard⟩ (by simp) rfl)
      have da0 : ac.eval (.tmp 76) = .pointer (some ⟨t, 0, none⟩) := hF.2.2.2 48 76 _ rfl (hdep ⟨48, .data⟩ (by simp) rfl)
      have hA := hW.at (k := 7) rfl hi (.inr ⟨44, rfl, (hcl 47 _ rfl (hdep ⟨47, .chain⟩ (by simp) rfl) ⟨44, .chain⟩ (by simp) rfl)⟩)
      refine Rg.ex_calll xq rfl (Ord.wanted_of dg (by rw [f1]; decide) rfl rfl) (Rg.enter (args := #[.pointer (some ⟨t, 0, none⟩)]) rfl rfl (by simp [da0]) EAL.out) (Calls.mono (ALC.out _ hA.1) ?_)
      rintro e w2 ⟨vq, rfl, hls, hB⟩
      exact ⟨vq, rfl, (fun j hj => match j, hj with | 0, _ => rfl | 1, _ => rfl | 2, _ => rfl | 3, _ => rfl | 4, _ => rfl | 5, _ => rfl | 6, _ => rfl | 7, _ => rfl | 8, _ => rfl | 9, _ => rfl | 10, _ => rfl | 11, _ => rfl | 12, _ => rfl | 13, _ => rfl | 14, _ => rfl | 15, _ => rfl | 16, _ => rfl | 17, _ => rfl | 18, _ => rfl | 19, _ => rfl | 20, _ => rfl | 21, _ => rfl | 22, _ => rfl | 23, _ => rfl | 24, _ => rfl | 25, _ => rfl | 26, _ => rfl | 27, _ => rfl | 28, _ => rfl | 29, _ => rfl | 30, _ => rfl | 31, _ => rfl | 32, _ => rfl | 33, _ => rfl | 34, _ => rfl | 35, _ => rfl | 36, _ => rfl | 37, _ => rfl | 38, _ => rfl | 39, _ => rfl | 40, _ => rfl | 41, _ => rfl | 42, _ => rfl | 43, _ => rfl | 44, _ => rfl | 45, _ => rfl | 46, _ => rfl | 47, _ => rfl | 48, _ => rfl | 49, hj => absurd hj (by rw [hi]; decide) | 50, _ => rfl | 51, _ => rfl | 52, _ => rfl | 53, _ => rfl | 54, _ => rfl | 55, _ => rfl | 56, _ => rfl | _ + 57, _ => rfl), hW.next (k := 7) rfl (by decide) hi (.inr ⟨44, rfl, (hcl 47 _ rfl (hdep ⟨47, .chain⟩ (by simp) rfl) ⟨44, .chain⟩ (by simp) rfl)⟩) ⟨hA.1.trans (hB.mono hA.1.size), fun _ => hls⟩⟩
    | 50, ho, hi, hdep =>
      cases ho
      have dg : ac.eval (.tmp 75) = .bool false := hF.2.2.2 47 75 _ rfl (hdep ⟨47, .guard⟩ (by simp) rfl)
      have da0 : ac.eval (.tmp 1) = .pointer (some ⟨r, 0, none⟩) := hF.old 1 rfl
      exact Ord.ex_value xq rfl (Ord.wanted_of dg (by rw [f1]; decide) rfl rfl) (Rg.mv da0 rfl) rfl (hW.keep (by decide))
    | 51, ho, hi, hdep =>
      cases ho
      have dg : ac.eval (.tmp 75) = .bool false := hF.2.2.2 47 75 _ rfl (hdep ⟨47, .guard⟩ (by simp) rfl)
      have da0 : ac.eval (.tmp 78) = .pointer (some ⟨r, 0, none⟩) := hF.2.2.2 50 78 _ rfl (hdep ⟨50, .data⟩ (by simp) rfl)
      exact Ord.ex_value xq rfl (Ord.wanted_of dg (by rw [f1]; decide) rfl rfl) (Rg.nilc da0 rfl) rfl (hW.keep (by decide))
    | 52, ho, hi, hdep =>
      cases ho
      have dg : ac.eval (.tmp 75) = .bool false := hF.2.2.2 47 75 _ rfl (hdep ⟨47, .guard⟩ (by simp) rfl)
      have da0 : ac.eval (.tmp 79) = .pointer (some ⟨r, 0, none⟩) := hF.2.2.2 51 79 _ rfl (hdep ⟨51, .data⟩ (by simp) rfl)
      exact Ord.ex_value xq rfl (Ord.wanted_of dg (by rw [f1]; decide) rfl rfl) (Rg.fa da0 rfl (by simp [go_sem])) rfl (hW.keep (by decide))
    | 53, ho, hi, hdep =>
      cases ho
      have dg : ac.eval (.tmp 75) = .bool false := hF.2.2.2 47 75 _ rfl (hdep ⟨47, .guard⟩ (by simp) rfl)
      have da0 : ac.eval (.tmp 80) = .pointer (some ⟨r, 2, none⟩) := hF.2.2.2 52 80 _ rfl (hdep ⟨52, .data⟩ (by simp) rfl)
      obtain ⟨kq, hlo, hhi, hA⟩ := hW.range 7 8 (.inr ⟨44, rfl, (hcl 47 _ rfl (hdep ⟨47, .guard⟩ (by simp) rfl) ⟨44, .chain⟩ (by simp) rfl)⟩) (.inr ⟨54, rfl, (Rg.no_of (fun h => hcl 54 _ rfl (h) ⟨53, .data⟩ (by simp) rfl) hi)⟩)
      exact Ord.ex_value xq rfl (Ord.wanted_of dg (by rw [f1]; decide) rfl rfl) (Rg.load da0 rfl (HRL.out _ hA.1)) rfl (hW.keep (by decide))
    | 54, ho, hi, hdep =>
      cases ho
      have dg : ac.eval (.tmp 75) = .bool false := hF.2.2.2 47 75 _ rfl (hdep ⟨47, .guard⟩ (by simp) rfl)
      have da0 : ac.eval (.tmp 77) = xq := hF.2.2.2 49 77 _ rfl (hdep ⟨49, .data⟩ (by simp) rfl)
      have da1 : ac.eval (.tmp 81) = .slice va z vc := hF.2.2.2 53 81 _ rfl (hdep ⟨53, .data⟩ (by simp) rfl)
      have hA := hW.at (k := 8) rfl hi (.inr ⟨49, rfl, (hdep ⟨49, .data⟩ (by simp) rfl)⟩)
      exact Rg.ex_call xq rfl (Ord.wanted_of dg (by rw [f1]; decide) rfl rfl) (Rg.enter (args := #[xq, .slice va z vc]) rfl rfl (by simp [da0, da1]) EAS.out) (Calls.mono (ASD.out _ _ hA.1 (hA.2 (by decide))) (by rintro e w2 ⟨rfl, hB⟩; exact ⟨rfl, hW.next (k := 8) rfl (by decide) hi (.inr ⟨49, rfl, (hdep ⟨49, .data⟩ (by simp) rfl)⟩) ⟨hA.1.trans (hB.mono hA.1.size), fun _ => (hA.2 (by decide)).later hB⟩⟩))
    | 55, ho, hi, hdep =>
      cases ho
      have dg : ac.eval (.tmp 75) = .bool false := hF.2.2.2 47 75 _ rfl (hdep ⟨47, .guard⟩ (by simp) rfl)
      have da0 : ac.eval (.tmp 82) = .bool true := hF.2.2.2 54 82 _ rfl (hdep ⟨54, .data⟩ (by simp) rfl)
      exact Ord.ex_value xq rfl (Ord.wanted_of dg (by rw [f1]; decide) rfl rfl) (Rg.not_ da0 rfl) rfl (hW.keep (by decide))
    | 56, ho, hi, hdep =>
      cases ho
      have da0 : ac.eval (.tmp 75) = .bool false := hF.2.2.2 47 75 _ rfl (hdep ⟨47, .data⟩ (by simp) rfl)
      have da1 : ac.eval (.tmp 83) = .bool false := hF.2.2.2 55 83 _ rfl (hdep ⟨55, .data⟩ (by simp) rfl)
      exact Ord.ex_value xq rfl rfl (Rg.pick_f da0 da1 rfl) rfl (hW.keep (by decide))
  case refine_3 => exact Rg.StM.first ⟨(Below.refl _ _).drew, fun e => absurd e (by decide)⟩
  case refine_2 =>
    intro xu W4 hW
    have hA := hW.last.1
    clear hW
    simp only [Ord.puts, Ord.prs]
    go_simp
    have HX3 := hidden hA
    clear hA SM CUM NXC NXD LEC TOC TOD ALC ASD ESM ECU ENC END ELC ETC ETD EAL EAS HRL HRC HY1 HY2 H6 H9 HR1 HR2
    go_wp2_with fail
    unfold ov
    go_loopw [11] (fun p X => ∃ k : Nat, p = .int .i64 ((k : Int) - 1) ∧ k ≤ n + 2 ∧ Hid (Below W3.heap.size W3 X)) (fun p _ => n + 2 - (intOf p + 1).toNat)
    case atStart => exact ⟨0, rfl, Nat.zero_le _, HX3.out⟩
    case round =>
      obtain ⟨k, rfl, hk, HI⟩ := hrel
      have hwk : IntKind.i64.wrap (k : Int) = (k : Int) := by have := HN8.out.2; rw [IntKind.wrap_i64]; omega
      have hwk2 : wrap64 (k : Int) = (k : Int) := by have := HN8.out.2; unfold wrap64; omega
      have c0 := (HRO.out.later HI.out).q.cell 0 rfl
      by_cases hlt : ((k : Int) - 1) ≤ (n : Int)
      case neg =>
        go_wp2
        go_ret
        exact ⟨rfl, HB3.out.trans (HI.out.mono HB3.out.size)⟩
      case pos =>
        have FI := hidden (Ob.first (HNO.out.later HI.out) HLK.out HD1.out ((k : Int) - 1))
        go_wp2_with fail
        clear c0
        refine Calls.mono FI.out ?_
        rintro e X5 ⟨u5, b5, rfl, hT5, hB5⟩
        obtain ⟨y5, a5, n5, c5, rfl, hr5, hy5⟩ := to_open hT5
        have HR5 := hidden hr5
        have HY5 := hidden hy5
        have HB5 := hidden (HI.out.trans (hB5.mono HI.out.size))
        clear hT5 hr5 hy5 hB5 FI
        obtain ⟨b12, hb12⟩ : ∃ b12, b12 = X5.heap.size := ⟨_, rfl⟩
        unfold ov
        go_upto_region 9 with fail
        obtain ⟨W6, hW6⟩ : ∃ W6, W6 = X5.alloc (.cells (oc y5 (.slice a5 n5 c5)) 59) := ⟨_, rfl⟩
        have hBc : Below X5.heap.size X5 W6 := by rw [hW6]; exact (Below.refl _ _).alloc (Nat.le_refl _) _
        have H12 : Hid (Has W6 b12 (oc y5 (.slice a5 n5 c5)) 59) := by rw [hb12, hW6]; exact Has.new _ _ _
        have HB6 := hidden (HB5.out.trans (hBc.mono HB5.out.size))
        have HR5 := hidden (HR5.out.later hBc)
        unfold oc at hW6
        rw [← hW6, ← hb12]
        clear hBc hW6 hb12
        have FD := hidden (Ob.r_first (HRO.out.later HB6.out) HLK.out ((k : Int) - 1))
        go_wp2_with fail
        refine Calls.mono FD.out ?_
        rintro e X7 ⟨u7, b7, rfl, hT7, hB7⟩
        obtain ⟨a7, n7, c7, rfl, rfl, hr7⟩ := to_second HY5.out hT7
        have HR7 := hidden hr7
        have HB7 := hidden (HB6.out.trans (hB7.mono HB6.out.size))
        have HR5 := hidden (HR5.out.later hB7)
        have H12 := hidden (H12.out.later hB7)
        clear hT7 hr7 hB7 FD HY5
        obtain ⟨b14, hb14⟩ : ∃ b14, b14 = X7.heap.size := ⟨_, rfl⟩
        unfold ov
        go_upto_region 10 with fail
        obtain ⟨W8, hW8⟩ : ∃ W8, W8 = X7.alloc (.cells (oc y5 (.slice a7 n7 c7)) 59) := ⟨_, rfl⟩
        have hBd : Below X7.heap.size X7 W8 := by rw [hW8]; exact (Below.refl _ _).alloc (Nat.le_refl _) _
        have h14 : Has W8 b14 (oc y5 (.slice a7 n7 c7)) 59 := by rw [hb14, hW8]; exact Has.new _ _ _
        have HB8 := hidden (HB7.out.trans (hBd.mono HB7.out.size))
        have SM := r_same (c := c5) (c' := c7) y5 (HR5.out.later hBd) (HR7.out.later hBd)
        unfold ov at SM
        have SM := hidden SM
        have h12 := H12.out.later hBd
        have p0 := h12.cell 0 (v := .int .u32 y5.ts) rfl
        have p1 := h12.cell 1 (v := .int .i64 y5.pa) rfl
        have p2 := h12.cell 2 (v := .int .i64 y5.ti) rfl
        have p3 := h12.cell 3 (v := .int .i64 y5.se) rfl
        have p4 := h12.cell 4 (v := .int .i64 y5.mi) rfl
        have p5 := h12.cell 5 (v := .bool y5.qu) rfl
        have p6 := h12.cell 6 (v := .int .i64 y5.st) rfl
        have p7 := h12.cell 7 (v := .int .u16 y5.p.sm) rfl
        have p8 := h12.cell 8 (v := .int .u16 y5.p.sn) rfl
        have p9 := h12.cell 9 (v := .int .u32 y5.p.pr) rfl
        have p10 := h12.cell 10 (v := .bool y5.p.un) rfl
        have p11 := h12.cell 11 (v := .slice a5 n5 c5) rfl
        have p12 := h12.cell 12 (v := .bool y5.p.bg) rfl
        have p13 := h12.cell 13 (v := .bool y5.p.en) rfl
        have s0 := h14.cell 0 (v := .int .u32 y5.ts) rfl
        have s1 := h14.cell 1 (v := .int .i64 y5.pa) rfl
        have s2 := h14.cell 2 (v := .int .i64 y5.ti) rfl
        have s3 := h14.cell 3 (v := .int .i64 y5.se) rfl
        have s4 := h14.cell 4 (v := .int .i64 y5.mi) rfl
        have s5 := h14.cell 5 (v := .bool y5.qu) rfl
        have s6 := h14.cell 6 (v := .int .i64 y5.st) rfl
        have s7 := h14.cell 7 (v := .int .u16 y5.p.sm) rfl
        have s8 := h14.cell 8 (v := .int .u16 y5.p.sn) rfl
        have s9 := h14.cell 9 (v := .int .u32 y5.p.pr) rfl
        have s10 := h14.cell 10 (v := .bool y5.p.un) rfl
        have s11 := h14.cell 11 (v := .slice a7 n7 c7) rfl
        have s12 := h14.cell 12 (v := .bool y5.p.bg) rfl
        have s13 := h14.cell 13 (v := .bool y5.p.en) rfl
        unfold oc at hW8
        rw [← hW8, ← hb14]
        clear hBd hW8 hb14 h14 h12
        obtain ⟨fv, hfv⟩ : ∃ fv, fv = fl L ((k : Int) - 1) := ⟨_, rfl⟩
        have HFV := hidden hfv
        clear hfv
        go_wp2_with fail
        clear p0 s0 p1 s1 p2 s2 p3 s3 p4 s4 p5 s5 p6 s6 p7 s7 p8 s8 p9 s9 p10 s10 p11 s11 p12 s12 p13 s13
        refine Calls.mono SM.out ?_
        rintro e X9 ⟨rfl, hB9⟩
        have HB9 := hidden (HB8.out.trans (hB9.mono HB8.out.size))
        have FLC : Hid (Calls Try.prog 27 #[.pointer (some ⟨t, 0, none⟩), .int .i64 ((k : Int) - 1)] X9 fun e w' => e = .returned (.int .i64 fv) ∧ X9 = w') := (Ob.flying (HNO.out.later HB9.out) ((k : Int) - 1)).mono (by
          rintro e w' ⟨rfl, rfl⟩
          refine ⟨?_, rfl⟩
          rw [HFV.out]
          by_cases hs : 0 ≤ (k : Int) - 1 ∧ (k : Int) - 1 < (n : Int)
          · rw [if_pos hs, show ((((k : Int) - 1).toNat : Nat) : Int) = (k : Int) - 1 by omega]
          · rw [if_neg hs, fl_out HLK.out hs])
        have FLD : Hid (Calls Try.prog 39 #[.pointer (some ⟨r, 0, none⟩), .int .i64 ((k : Int) - 1)] X9 fun e w' => e = .returned (.int .i64 fv) ∧ Below X9.heap.size X9 w') := by
          rw [HFV.out]
          exact Ob.r_flying (HRO.out.later HB9.out) HLK.out ((k : Int) - 1)
        clear hB9 SM
        go_wp2_with fail
        refine Calls.mono FLC.out ?_
        rintro e X ⟨rfl, rfl⟩
        go_wp2_with fail
        refine Calls.mono FLD.out ?_
        rintro e XA ⟨rfl, hBA⟩
        have HBA := hidden (HB9.out.trans (hBA.mono HB9.out.size))
        clear hBA FLC FLD
        go_wp2_with fail
        go_roundw
        case rel => exact ⟨k + 1, by rw [show (((k + 1 : Nat) : Int) - 1) = (k : Int) by omega], by omega, HBA.out⟩
        case measure => simp only [intOf]; omega
set_option maxRecDepth 20000 in
set_option maxHeartbeats 40000000 in

theorem walk (a0 : Int) (a1 : Int) (a2 : Option Addr) (len2 cap2 : Nat) (z2 : List Ob.OA) (w : World) (w0 : (Lit.int .u32 a0).wf = true) (w1 : (Lit.int .i64 a1).wf = true) (w2 : Ob.Ops w a2 len2 z2) (s2 : True) :
    Calls Try.prog 3 #[.int .u32 a0, .int .i64 a1, .slice a2 len2 cap2] w fun e w' => e = .returned (.bool true) ∧ Below w.heap.size w w' := by
  have HU0 := hidden (Ob.u32_bounds w0)
  have HS := hidden w2
  clear w0 w1 w2 s2
  by_cases hn : 1 ≤ a1 ∧ a1 ≤ 8
  case neg =>
    have N := hidden (Ob.new_no a0 a1 hn w)
    have R := hidden (Ob.r_new_no a0 a1 hn w)
    have AL := hidden (Ob.alive w)
    clear hn
    go_enter Try.func3, Try.ntmps3
    go_wp2_with fail
    refine Calls.mono N.out ?_
    rintro e w' ⟨rfl, rfl⟩
    go_wp2_with fail
    refine Calls.mono R.out ?_
    rintro e w' ⟨rfl, rfl⟩
    go_wp2_with fail
    refine Calls.mono AL.out ?_
    rintro e x1 ⟨rfl, hB⟩
    go_wp2
    go_ret
    exact ⟨rfl, hB⟩
  case pos =>
    have N := hidden (Ob.new (fun k => w.heap.size ≤ k) a0 a1 HU0.out hn.1 hn.2 w)
    have R := hidden (fun X => Ob.r_new (fun k => w.heap.size ≤ k) a0 a1 hn.1 hn.2 X)
    have HN := hidden hn
    clear hn
    go_enter Try.func3, Try.ntmps3
    go_wp2_with fail
    refine Calls.mono N.out ?_
    rintro e x1 ⟨t, rfl, ⟨F, hC, hF⟩, hB1⟩
    have H1 := hidden (And.intro hC (And.intro hF hB1))
    clear hC hF hB1
    go_wp2_with fail
    refine Calls.mono (R.out x1) ?_
    rintro e x2 ⟨r, rfl, hR, hr, hB2⟩
    have HB0 := hidden (Bx.new HN.out.1 H1.out.1 H1.out.2.1 H1.out.2.2 hR hr hB2)
    have HG0 := hidden (Ob.Good.new HU0.out HN.out)
    clear hR hr hB2 H1 N R
    go_wp2_with fail
    go_loopw [11] (fun i X => ∃ (k : Nat) (S : St), i = .int .i64 (k : Int) ∧ k ≤ len2 ∧ k ≤ 120 ∧ Hid (Bx w X t r S ∧ Ob.Good k S)) (fun i X => 120 - (intOf i).toNat)
    case atStart => exact ⟨0, newS a0 a1, rfl, Nat.zero_le _, by omega, HB0.out, HG0.out⟩
    case round =>
      obtain ⟨k, S, rfl, hk2, hk120, HI⟩ := hrel
      have hwk : IntKind.i64.wrap ((k : Int) + 1) = (k : Int) + 1 := by rw [IntKind.wrap_i64]; omega
      by_cases hl2 : (k : Int) < (len2 : Int)
      case neg =>
        have SA := hidden (same_ HI.out.1 HI.out.2)
        go_wp2_with fail
        refine Calls.mono SA.out ?_
        rintro e x5 ⟨rfl, hB5⟩
        have HB5 := hidden (HI.out.1.bl.trans (hB5.mono HI.out.1.bl.size))
        have AL := hidden (Ob.alive x5)
        clear hB5 SA
        go_wp2_with fail
        refine Calls.mono AL.out ?_
        rintro e x6 ⟨rfl, hB6⟩
        go_wp2
        go_ret
        exact ⟨rfl, HB5.out.trans (hB6.mono HB5.out.size)⟩
      case pos =>
        by_cases hl120 : (k : Int) < 120
        case neg =>
          have SA := hidden (same_ HI.out.1 HI.out.2)
          go_wp2_with fail
          refine Calls.mono SA.out ?_
          rintro e x5 ⟨rfl, hB5⟩
          have HB5 := hidden (HI.out.1.bl.trans (hB5.mono HI.out.1.bl.size))
          have AL := hidden (Ob.alive x5)
          clear hB5 SA
          go_wp2_with fail
          refine Calls.mono AL.out ?_
          rintro e x6 ⟨rfl, hB6⟩
          go_wp2
          go_ret
          exact ⟨rfl, HB5.out.trans (hB6.mono HB5.out.size)⟩
        case pos =>
          obtain ⟨b, off, o, hao, hz, hok, hcells⟩ := op_at HS.out HI.out.1.bl (j := k) (by omega)
          have LD := hidden (load26 hcells)
          have AC := act HI.out.1 HI.out.2 (by omega) o hok
          subst hao
          have AC := hidden AC
          clear hcells hz hok
          go_wp2_with (refine wpList_ld rfl 50 _ rfl _ rfl _ LD.out ?_)
          refine Calls.mono AC.out ?_
          rintro e X2 ⟨S', fq, ra, rl, rc, rn, rfl, hst, hG2, hB2⟩
          obtain ⟨W3, hW3⟩ : ∃ W3, W3 = X2.alloc (.cells #[.slice ra rl rc, .int .i64 fq, .int .i64 rn] 34) := ⟨_, rfl⟩
          have hB3 := hB2.later (w' := W3) (by rw [hW3]; exact (Below.refl _ _).alloc (Nat.le_refl _) _)
          have HGB := hidden (And.intro hG2 hB3)
          have SA := hidden (same_ hB3 hG2)
          have HW3 := hidden hW3
          clear hst hG2 hB2 AC LD hB3 hW3
          go_wp2_with fail
          rw [← HW3.out]
          refine Calls.mono SA.out ?_
          rintro e X3 ⟨rfl, hB3⟩
          have HB3 := hidden (HGB.out.2.later hB3)
          clear hB3 SA
          go_wp2_with fail
          go_roundw
          case rel => exact ⟨k + 1, S', by simp, by omega, by omega, HB3.out, HGB.out.1⟩
          case measure => simp only [intOf]; omega

set_option maxRecDepth 100000 in
theorem contract (H : Type) (enc : TypeId × Value → H) (W : World) (base : Nat) (args : Array Value) (ds gs : List (DataW H)) (before : List MemPlace)
    (hval : ∀ (j : Nat) t v, Try.f3.params[j]? = some t → args[j]? = some v → Value.okWide Try.prog W .any base t v)
    (hW : DataW.Whole enc Try.prog Try.f3.params.toList Rows.outboxRunsSpec.vars false W args.toList ds gs before)
    (hsz0 : (DataW.weightsEach Try.prog (Try.f3.params.toList ++ Rows.outboxRunsSpec.plain.varTypes Try.prog) (ds ++ gs)).all (· ≤ reachBytes) = true) :
    Calls Try.prog 3 args W fun e W' => ∃ v, e = .returned v ∧ Rows.outboxRunsSpec.post enc Try.prog Try.f3 false true false false W args v W' := by
  have hW' := hW
  obtain ⟨p, q, hA0, hV, rfl, hfz, hnd⟩ := hW
  have hA : DataW.TrodAll enc Try.prog W 0 (fun _ => true) true Try.f3.params.toList args.toList ds p := hA0
  have hsz := hsz0
  rw [Try.params3] at hA hval hsz
  obtain ⟨v0, vs0, d0, ds0, p0, q0, hargs, rfl, rfl, h0, r0⟩ := trodAll_cons hA
  obtain ⟨v1, vs1, d1, ds1, p1, q1, rfl, rfl, rfl, h1, r1⟩ := trodAll_cons r0
  obtain ⟨v2, vs2, d2, ds2, p2, q2, rfl, rfl, rfl, h2, r2⟩ := trodAll_cons r1
  obtain ⟨rfl, rfl, rfl⟩ := trodAll_nil r2
  obtain rfl : args = #[v0, v1, v2] := by cases args; simp_all
  obtain ⟨rfl, rfl⟩ := trodVars_none hV
  obtain ⟨a0, rfl, rfl, rfl, w0⟩ := open_int Try.underlying22 (hval 0 22 v0 rfl rfl) h0
  obtain ⟨a1, rfl, rfl, rfl, w1⟩ := open_int Try.underlying3 (hval 1 3 v1 rfl rfl) h1
  obtain ⟨a2, len2, cap2, rfl⟩ := okWide_slice Try.underlying23 (hval 2 23 v2 rfl rfl)
  have k2 := h2
  have lt2 : ∀ x ∈ p2, x.block < W.heap.size := by obtain ⟨m, hm⟩ := k2; exact DataW.trod_lt m _ _ _ hm
  have sz2 : (d2.weights Try.prog 23).all (· ≤ reachBytes) = true := List.all_eq_true.2 fun m hm => List.all_eq_true.1 hsz m (DataW.weights_mem_each (j := 2) rfl rfl m hm)
  obtain ⟨z2, w2, s2⟩ : ∃ z2, Ob.Ops W a2 len2 z2 ∧ True := by
    obtain ⟨fuel, hf⟩ := h2
    obtain ⟨vs, h1⟩ := Ob.ops_arg hf sz2
    exact ⟨vs, h1, trivial⟩
  clear hA0 hsz0 hsz
  refine (walk a0 a1 a2 len2 cap2 z2 W w0 w1 w2 s2).mono fun e W' ⟨he, bel⟩ => ?_
  subst he
  exact ⟨_, rfl, _, _, _, [], _, [], hW', trodAll_mk1 (shut_bool Try.underlying4 _), (trodAll_cons_mk (shut_int Try.underlying22 w0) (trodAll_cons_mk (shut_int Try.underlying3 w1) (trodAll_cons_mk (Below.trod laidOut (by kernel_rfl) (of_decide_eq_true (by kernel_rfl)) k2 bel lt2) trodAll_mk0))), rfl, bel.frame _, fun h => by cases h⟩

noncomputable def laidWorld (os : Os) : World :=
  World.holding Try.prog os ⟨#[], #[], []⟩
set_option maxRecDepth 100000 in
theorem laid_met (os : Os) : laidMet Try.prog Rows.outboxRunsRow.laid ((laidWorld os).forCall (fun _ _ => 0) ⟨#[], #[.int .u32 0, .int .i64 0, .slice none 0 0], []⟩).memory :=
  laidMet_of_run' 8 (by kernel_rfl) (by kernel_rfl)
set_option maxRecDepth 100000 in
theorem reads (os : Os) {H : Type} (enc : TypeId × Value → H) : ∃ places, DataW.whole enc Try.prog ((laidWorld os).forCall (fun _ _ => 0) ⟨#[], #[.int .u32 0, .int .i64 0, .slice none 0 0], []⟩).memory Try.f3.params.toList Rows.outboxRunsSpec.vars false #[Value.int .u32 0, Value.int .i64 0, Value.slice none 0 0].toList 8 = some ([.lit (.int .u32 0), .lit (.int .i64 0), .nil], [], places) :=
  ⟨[], by kernel_rfl⟩

set_option maxRecDepth 100000 in
theorem lifted (os : Os) (started : os.Started) (H : Type) (enc : TypeId × Value → H) (F : Stop.Interp) :
    ReturnsInHanded {} Try.checked os 3 .any ((OpenSpec.ofChange Rows.outboxRunsSpec).preRow enc Try.prog Try.f3 Rows.outboxRunsRow.domain false Rows.outboxRunsRow.laid) (((OpenSpec.ofChange Rows.outboxRunsSpec).at F).post enc Try.prog Try.f3 false true false false) := by
  obtain ⟨places, hx⟩ := reads os enc
  refine returnsInHanded_of_row (C := Try.checked) (s := OpenSpec.ofChange Rows.outboxRunsSpec) own started (by kernel_rfl) Try.func3
    (witness_row_at (enc := enc) (C := Try.checked) false (laidWorld os) #[.int .u32 0, .int .i64 0, .slice none 0 0] rfl (by kernel_rfl) (by kernel_rfl) (by kernel_rfl)
      (OpenSpec.preRow_of_cond 8 hx (by kernel_rfl) (fun k hk => by cases hk) (by kernel_rfl) (laid_met os))) ?_
  intro W base args ds gs before hval hW _ hcond hsz hL _ _
  exact contract H enc W base args ds gs before hval hW hsz

set_option maxRecDepth 100000 in
theorem said : Rows.OutboxRunsSaid :=
  OpenClaim.holds_of_cond 3 Try.f3 rfl rfl rfl rfl rfl rfl rfl ⟨rfl, rfl, rfl, rfl, rfl⟩ rfl rfl rfl rfl rfl (by kernel_rfl) Try.func3 (by kernel_rfl)
    (of_decide_eq_true (by kernel_rfl)) (by unfold Func.isWrapper; first | (rw [if_pos (by decide +kernel)]; kernel_rfl) | (rw [if_neg (by decide +kernel)]; exact ⟨rfl, rfl⟩))
    (fun os started H enc _ F => by rw [OpenClaim.pre_eq_preRow]; exact lifted os started H enc F)

/-- THE STATEMENT -/
theorem proved : Rows.OutboxRunsSaid := said
#print axioms proved
end Go.Proofs.Ytjceeckcfjjkkaa.outboxRuns
