/-
  The class; what speaks against a path, as a function that is told.
  Conditions: as at each lemma.
-/
import Derived.Test.YtcflcibncbipbaaScC
namespace Go.Proofs.Ytcflcibncbipbaa.Sc
open Go.ChangeShapes Go.WideShapes Go.ChangeAt Go.RowKit
open Ba (hidden Has Only)
open Ow (Own)
set_option linter.unusedVariables false

section
variable {w : World} {a : Option Addr} {n cap qf : Nat} {vs : List Vw} {cb : Array Value} {q : Nat → Bool}
/-- behind the three blocks -/
theorem cl_first (sv fv : Value) : Cl w (((w.alloc (.cells #[fv] 47)).alloc (.cells #[sv] 22)).alloc (.cells #[.slice none 0 0] 23)) (w.heap.size + 1 + 1) w.heap.size (w.heap.size + 1) (.slice none 0 0) fv sv 0 [] := by
  refine ⟨by omega, by omega, World.ownsRow_nil _ _ _ _, ?_⟩
  have := (((Own.refl w).alloc #[fv] 47).alloc #[sv] 22).alloc #[.slice none 0 0] 23
  refine this.sub ?_
  simp
set_option maxHeartbeats 1000000 in
theorem class3 (h : Vs w a n vs) (h8 : n ≤ 8) (hq : Ask w n qf cb fun x => .bool (q x.toNat)) (eg : ∀ args w, (callFunc qf args).run Try.prog w = .ok (.enter qf args) w) :
    Calls Try.prog 23 #[.int .i64 3, .func (.func qf) #[] cb, .slice a n cap] w fun e w' => ∃ v k, e = .returned v ∧ w'.ownsRow w.heap.size 3 1 v k (lc (cls 3 q vs)) ∧ Below w.heap.size w w' := by
  have C0 := hidden (cl_first (w := w) (.slice a n cap) (.func (.func qf) #[] cb))
  have T := hidden (fun (w1 : World) (v : Value) (k : Nat) (l : List Int) (hC : Cl w w1 (w.heap.size + 1 + 1) w.heap.size (w.heap.size + 1) v (.func (.func qf) #[] cb) (.slice a n cap) k l) (s : Int) => take_ h h8 hq eg hC s)
  clear h hq h8
  show Calls Try.prog 23 #[.int .i64 3, .func (.func qf) #[] cb, .slice a n cap] w _
  go_enter Try.func23, Try.ntmps23
  go_wp2_with fail
  refine Calls.mono (T.out _ _ _ _ C0.out 3) ?_
  rintro e w1 ⟨rfl, v1, k1, hC1⟩
  have C1 := hidden hC1
  clear C0 hC1
  go_wp2_with fail
  refine Calls.mono (T.out _ _ _ _ C1.out 2) ?_
  rintro e w2 ⟨rfl, v2, k2, hC2⟩
  have C2 := hidden hC2
  clear C1 hC2
  go_wp2_with fail
  refine Calls.mono (T.out _ _ _ _ C2.out 1) ?_
  rintro e w3 ⟨rfl, v3, k3, hC3⟩
  have c := hC3.2.2.2.cell (.head _) 0 rfl
  have END := hidden (show w3.ownsRow w.heap.size 3 1 v3 k3 (lc (cls 3 q vs)) ∧ Below w.heap.size w w3 from ⟨hC3.2.2.1, hC3.2.2.2.below⟩)
  obtain ⟨a3, cap3, rfl⟩ := Ba.own_len hC3.2.2.1
  clear C2 hC3 T
  go_wp2
  go_ret
  exact ⟨_, _, rfl, END.out⟩
set_option maxHeartbeats 1000000 in
theorem class2 (h : Vs w a n vs) (h8 : n ≤ 8) (hq : Ask w n qf cb fun x => .bool (q x.toNat)) (eg : ∀ args w, (callFunc qf args).run Try.prog w = .ok (.enter qf args) w) :
    Calls Try.prog 23 #[.int .i64 2, .func (.func qf) #[] cb, .slice a n cap] w fun e w' => ∃ v k, e = .returned v ∧ w'.ownsRow w.heap.size 3 1 v k (lc (cls 2 q vs)) ∧ Below w.heap.size w w' := by
  have C0 := hidden (cl_first (w := w) (.slice a n cap) (.func (.func qf) #[] cb))
  have T := hidden (fun (w1 : World) (v : Value) (k : Nat) (l : List Int) (hC : Cl w w1 (w.heap.size + 1 + 1) w.heap.size (w.heap.size + 1) v (.func (.func qf) #[] cb) (.slice a n cap) k l) (s : Int) => take_ h h8 hq eg hC s)
  clear h hq h8
  show Calls Try.prog 23 #[.int .i64 2, .func (.func qf) #[] cb, .slice a n cap] w _
  go_enter Try.func23, Try.ntmps23
  go_wp2_with fail
  refine Calls.mono (T.out _ _ _ _ C0.out 2) ?_
  rintro e w2 ⟨rfl, v2, k2, hC2⟩
  have C2 := hidden hC2
  clear C0 hC2
  go_wp2_with fail
  refine Calls.mono (T.out _ _ _ _ C2.out 1) ?_
  rintro e w3 ⟨rfl, v3, k3, hC3⟩
  have c := hC3.2.2.2.cell (.head _) 0 rfl
  have END := hidden (show w3.ownsRow w.heap.size 3 1 v3 k3 (lc (cls 2 q vs)) ∧ Below w.heap.size w w3 from ⟨hC3.2.2.1, hC3.2.2.2.below⟩)
  obtain ⟨a3, cap3, rfl⟩ := Ba.own_len hC3.2.2.1
  clear C2 hC3 T
  go_wp2
  go_ret
  exact ⟨_, _, rfl, END.out⟩
set_option maxHeartbeats 1000000 in
theorem class1 (h : Vs w a n vs) (h8 : n ≤ 8) (hq : Ask w n qf cb fun x => .bool (q x.toNat)) (eg : ∀ args w, (callFunc qf args).run Try.prog w = .ok (.enter qf args) w) :
    Calls Try.prog 23 #[.int .i64 1, .func (.func qf) #[] cb, .slice a n cap] w fun e w' => ∃ v k, e = .returned v ∧ w'.ownsRow w.heap.size 3 1 v k (lc (cls 1 q vs)) ∧ Below w.heap.size w w' := by
  have C0 := hidden (cl_first (w := w) (.slice a n cap) (.func (.func qf) #[] cb))
  have T := hidden (fun (w1 : World) (v : Value) (k : Nat) (l : List Int) (hC : Cl w w1 (w.heap.size + 1 + 1) w.heap.size (w.heap.size + 1) v (.func (.func qf) #[] cb) (.slice a n cap) k l) (s : Int) => take_ h h8 hq eg hC s)
  clear h hq h8
  show Calls Try.prog 23 #[.int .i64 1, .func (.func qf) #[] cb, .slice a n cap] w _
  go_enter Try.func23, Try.ntmps23
  go_wp2_with fail
  refine Calls.mono (T.out _ _ _ _ C0.out 1) ?_
  rintro e w3 ⟨rfl, v3, k3, hC3⟩
  have c := hC3.2.2.2.cell (.head _) 0 rfl
  have END := hidden (show w3.ownsRow w.heap.size 3 1 v3 k3 (lc (cls 1 q vs)) ∧ Below w.heap.size w w3 from ⟨hC3.2.2.1, hC3.2.2.2.below⟩)
  obtain ⟨a3, cap3, rfl⟩ := Ba.own_len hC3.2.2.1
  clear C0 hC3 T
  go_wp2
  go_ret
  exact ⟨_, _, rfl, END.out⟩
theorem class_ (h : Vs w a n vs) (h8 : n ≤ 8) (hq : Ask w n qf cb fun x => .bool (q x.toNat)) (eg : ∀ args w, (callFunc qf args).run Try.prog w = .ok (.enter qf args) w) {s : Int} (hs : 1 ≤ s ∧ s ≤ 3) :
    Calls Try.prog 23 #[.int .i64 s, .func (.func qf) #[] cb, .slice a n cap] w fun e w' => ∃ v k, e = .returned v ∧ w'.ownsRow w.heap.size 3 1 v k (lc (cls s q vs)) ∧ Below w.heap.size w w' := by
  rcases show s = 1 ∨ s = 2 ∨ s = 3 by omega with rfl | rfl | rfl
  · exact class1 h h8 hq eg
  · exact class2 h h8 hq eg
  · exact class3 h h8 hq eg
end
/-- a function that is asked, whatever blocks but these have turned -/
def Gv (F : List Nat) (w : World) (n f : Nat) (cb : Array Value) (r : Int → Value) : Prop := ∀ W, Only F w W → ∀ x : Int, 0 ≤ x → x < n → Calls Try.prog f (#[.int .i64 x] ++ cb) W fun e w' => e = .returned (r x) ∧ W = w'
theorem Gv.turn {F : List Nat} {w w' : World} {n f : Nat} {cb : Array Value} {r : Int → Value} (h : Gv F w n f cb r) (ho : Only F w w') : Gv F w' n f cb r := fun W hW => h W (ho.then hW)
theorem Gv.later {F : List Nat} {w w' : World} {n f : Nat} {cb : Array Value} {r : Int → Value} (h : Gv F w n f cb r) (ho : Below w.heap.size w w') : Gv F w' n f cb r := h.turn (Only.of_below ho)
/-- new ones -/
def New (w : World) (F : List Nat) : Prop := ∀ k ∈ F, w.heap.size ≤ k
theorem vs_only {w0 w W : World} {a : Option Addr} {n : Nat} {vs : List Vw} {F : List Nat} (h : Vs w0 a n vs) (hB : Below w0.heap.size w0 w) (hF : New w0 F) (hW : Only F w W) : Vs W a n vs := h.later (hB.trans (hW.below hB.size hF))
theorem enters1 : ∀ args w, (callFunc 38 args).run Try.prog w = .ok (.enter 38 args) w := enters_of Try.func38 (by kernel_rfl) rfl
theorem enters2 : ∀ args w, (callFunc 39 args).run Try.prog w = .ok (.enter 39 args) w := enters_of Try.func39 (by kernel_rfl) rfl
theorem enters3 : ∀ args w, (callFunc 40 args).run Try.prog w = .ok (.enter 40 args) w := enters_of Try.func40 (by kernel_rfl) rfl
theorem entersA : ∀ args w, (callFunc 20 args).run Try.prog w = .ok (.enter 20 args) w := enters_of Try.func20 (by kernel_rfl) rfl
theorem entersU : ∀ args w, (callFunc 21 args).run Try.prog w = .ok (.enter 21 args) w := enters_of Try.func21 (by kernel_rfl) rfl
theorem entersO : ∀ args w, (callFunc 30 args).run Try.prog w = .ok (.enter 30 args) w := enters_of Try.func30 (by kernel_rfl) rfl
theorem not_old {w : World} {F : List Nat} (hF : ∀ k ∈ F, k < w.heap.size) {b : Nat} (hb : w.heap.size ≤ b) : b ∉ F := fun h => by have := hF b h; omega
section
variable {w0 w : World} {a : Option Addr} {n cap : Nat} {vs : List Vw} {F : List Nat}
theorem cost_ (h : Vs w0 a n vs) (hB : Below w0.heap.size w0 w) (hN : New w0 F) (hF : ∀ k ∈ F, k < w.heap.size) (h8 : 0 < n ∧ n ≤ 8) (hv : ∀ v ∈ vs, okv v) (kind last : Int) :
    Calls Try.prog 25 #[.int .i64 kind, .int .i64 last, .slice a n cap] w fun e w' => ∃ f cb, e = .returned (.func (.func f) #[] cb) ∧ (∀ args w, (callFunc f args).run Try.prog w = .ok (.enter f args) w) ∧ Gv F w' n f cb (fun x => .int .i64 (cst kind last vs x.toNat)) ∧ Below w.heap.size w w' := by
  have hl := h.len
  have O := hidden ((Own.refl w).alloc #[.slice a n cap] 22)
  have vc := O.out.cell (.head _) 0 rfl
  by_cases k1 : kind = 1
  · subst k1
    have END := hidden (show Gv F (w.alloc (.cells #[.slice a n cap] 22)) n 38 #[.pointer (some ⟨w.heap.size, 0, none⟩)] (fun x => .int .i64 (cst 1 last vs x.toNat)) from fun W hW x x0 x1 =>
      cost1 (vs_only h (hB.trans (O.out.below.mono hB.size)) hN hW) (((O.out.has (.head _)).stay hW (not_old hF (Nat.le_refl _))).cell 0 rfl) x0 x1)
    clear h hB hN hF h8 hv hl vc
    go_enter Try.func25, Try.ntmps25
    go_wp2
    go_ret
    exact ⟨_, _, rfl, enters1, END.out, O.out.below⟩
  · by_cases k2 : kind = 2
    · subst k2
      have END := hidden (show Gv F (w.alloc (.cells #[.slice a n cap] 22)) n 39 #[.pointer (some ⟨w.heap.size, 0, none⟩)] (fun x => .int .i64 (cst 2 last vs x.toNat)) from fun W hW x x0 x1 =>
        cost2 (vs_only h (hB.trans (O.out.below.mono hB.size)) hN hW) (((O.out.has (.head _)).stay hW (not_old hF (Nat.le_refl _))).cell 0 rfl) x0 x1 (ok_at hv (k := x.toNat) (by omega)).2.1)
      clear h hB hN hF h8 hv hl vc
      go_enter Try.func25, Try.ntmps25
      go_wp2
      go_ret
      exact ⟨_, _, rfl, enters2, END.out, O.out.below⟩
    · have hw1 : IntKind.i64.wrap ((n : Int) - 1) = (n : Int) - 1 := by rw [IntKind.wrap_i64]; omega
      have O2 : Own w ((w.alloc (.cells #[.slice a n cap] 22)).alloc (.cells #[.int .i64 0] 3)) [(w.heap.size + 1, #[.int .i64 0], 3), (w.heap.size, #[.slice a n cap], 22)] := (O.out.alloc #[.int .i64 0] 3).sub (by simp)
      have f2 := O2.frozen (.head _) 0
      by_cases hf : 0 ≤ last ∧ last ≤ (n : Int) - 1
      · have WI := hidden (within_t hf)
        have hw2 : IntKind.i64.wrap (last + 1) = last + 1 := by rw [IntKind.wrap_i64]; omega
        have O3 : Own w ((w.alloc (.cells #[.slice a n cap] 22)).alloc (.cells #[.int .i64 (last + 1)] 3)) [(w.heap.size + 1, #[.int .i64 (last + 1)], 3), (w.heap.size, #[.slice a n cap], 22)] := (O.out.alloc #[.int .i64 (last + 1)] 3).sub (by simp)
        have END := hidden (show Gv F ((w.alloc (.cells #[.slice a n cap] 22)).alloc (.cells #[.int .i64 (last + 1)] 3)) n 40 #[.pointer (some ⟨w.heap.size + 1, 0, none⟩), .pointer (some ⟨w.heap.size, 0, none⟩)] (fun x => .int .i64 (cst kind last vs x.toNat)) from fun W hW x x0 x1 => by
          have e : cst kind last vs x.toNat = (x - (last + 1) + n) % n := by
            unfold cst fst
            rw [if_neg k1, if_neg k2, hl, if_pos hf, Int.toNat_of_nonneg x0]
          show Calls Try.prog 40 #[.int .i64 x, .pointer (some ⟨w.heap.size + 1, 0, none⟩), .pointer (some ⟨w.heap.size, 0, none⟩)] W fun e' w' => e' = .returned (.int .i64 (cst kind last vs x.toNat)) ∧ W = w'
          rw [e]
          exact cost3 h8 (((O3.has (.tail _ (.head _))).stay hW (not_old hF (Nat.le_refl _))).cell 0 rfl) (((O3.has (.head _)).stay hW (not_old hF (by simp))).cell 0 rfl) (by omega) x0 x1)
        have BE := hidden O3.below
        clear h hB hN hF h8 hv hl O2 O3 hf
        go_enter Try.func25, Try.ntmps25
        go_wp2_with fail
        refine Calls.mono (WI.out _) ?_
        rintro e w1 ⟨rfl, rfl⟩
        go_wp2
        go_ret
        exact ⟨_, _, rfl, enters3, END.out, BE.out⟩
      · have WI := hidden (within_f hf)
        have END := hidden (show Gv F ((w.alloc (.cells #[.slice a n cap] 22)).alloc (.cells #[.int .i64 0] 3)) n 40 #[.pointer (some ⟨w.heap.size + 1, 0, none⟩), .pointer (some ⟨w.heap.size, 0, none⟩)] (fun x => .int .i64 (cst kind last vs x.toNat)) from fun W hW x x0 x1 => by
          have e : cst kind last vs x.toNat = (x - 0 + n) % n := by
            unfold cst fst
            rw [if_neg k1, if_neg k2, hl, if_neg hf, Int.toNat_of_nonneg x0]
          show Calls Try.prog 40 #[.int .i64 x, .pointer (some ⟨w.heap.size + 1, 0, none⟩), .pointer (some ⟨w.heap.size, 0, none⟩)] W fun e' w' => e' = .returned (.int .i64 (cst kind last vs x.toNat)) ∧ W = w'
          rw [e]
          exact cost3 h8 (((O2.has (.tail _ (.head _))).stay hW (not_old hF (Nat.le_refl _))).cell 0 rfl) (((O2.has (.head _)).stay hW (not_old hF (by simp))).cell 0 rfl) (by omega) x0 x1)
        have BE := hidden O2.below
        clear h hB hN hF h8 hv hl O2 hf
        go_enter Try.func25, Try.ntmps25
        go_wp2_with fail
        refine Calls.mono (WI.out _) ?_
        rintro e w1 ⟨rfl, rfl⟩
        go_wp2
        go_ret
        exact ⟨_, _, rfl, enters3, END.out, BE.out⟩
end
end Go.Proofs.Ytcflcibncbipbaa.Sc
