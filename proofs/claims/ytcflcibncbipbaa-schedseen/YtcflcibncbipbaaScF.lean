/-
  The order: ranked, by whatever is told of each path.
  Conditions: as at each lemma.
-/
import Derived.Test.YtcflcibncbipbaaScE
namespace Go.Proofs.Ytcflcibncbipbaa.Sc
open Go.ChangeShapes Go.WideShapes Go.ChangeAt Go.RowKit Go.Sort Go.Lib
open Ba (hidden Has Only)
open Ow (Own)
set_option linter.unusedVariables false

def cmpv (x y : Int) : Int := if x < y then -1 else if x > y then 1 else 0
theorem cmpv_neg (x y : Int) : cmpv x y < 0 ↔ x < y := by
  unfold cmpv
  split
  · omega
  · split <;> omega
theorem isNaN (x : Int) (w : World) : Calls Try.prog 44 #[.int .i64 x] w fun e w' => e = .returned (.bool false) ∧ w = w' := by
  go_enter Try.func44, Try.ntmps44
  go_wp2
  go_ret
  exact ⟨by simp, rfl⟩
theorem compare (x y : Int) (w : World) : Calls Try.prog 37 #[.int .i64 x, .int .i64 y] w fun e w' => e = .returned (.int .i64 (cmpv x y)) ∧ w = w' := by
  have N1 := hidden (isNaN x)
  have N2 := hidden (isNaN y)
  by_cases h1 : x < y
  · have HE : Hid (cmpv x y = -1) := if_pos h1
    go_enter Try.func37, Try.ntmps37
    go_wp2_with fail
    refine Calls.mono (N1.out _) ?_
    rintro e w1 ⟨rfl, rfl⟩
    go_wp2_with fail
    refine Calls.mono (N2.out _) ?_
    rintro e w1 ⟨rfl, rfl⟩
    go_wp2
    go_ret
    exact ⟨by rw [HE.out]; rfl, rfl⟩
  · by_cases h2 : x > y
    · have HE : Hid (cmpv x y = 1) := (if_neg h1).trans (if_pos h2)
      go_enter Try.func37, Try.ntmps37
      go_wp2_with fail
      refine Calls.mono (N1.out _) ?_
      rintro e w1 ⟨rfl, rfl⟩
      go_wp2_with fail
      refine Calls.mono (N2.out _) ?_
      rintro e w1 ⟨rfl, rfl⟩
      go_wp2
      go_ret
      exact ⟨by rw [HE.out]; rfl, rfl⟩
    · have HE : Hid (cmpv x y = 0) := (if_neg h1).trans (if_neg h2)
      go_enter Try.func37, Try.ntmps37
      go_wp2_with fail
      refine Calls.mono (N1.out _) ?_
      rintro e w1 ⟨rfl, rfl⟩
      go_wp2_with fail
      refine Calls.mono (N2.out _) ?_
      rintro e w1 ⟨rfl, rfl⟩
      go_wp2
      go_ret
      exact ⟨by rw [HE.out]; rfl, rfl⟩
theorem only_drewN {F : List Nat} {w W : World} (h : Only F w W) (k : Nat) : Only F w (W.drewN k) := ⟨h.os, h.tape, h.output, h.size, h.block⟩
theorem entersR : ∀ args w, (callFunc 36 args).run Try.prog w = .ok (.enter 36 args) w := enters_of Try.func36 (by kernel_rfl) rfl
section
variable {w W : World} {F : List Nat} {n0 f kb : Nat} {cb : Array Value} {co : Nat → Int}
theorem rank1 (G : Gv F w n0 f cb fun x => .int .i64 (co x.toNat)) (eg : ∀ args w, (callFunc f args).run Try.prog w = .ok (.enter f args) w) (hW : Only F w W) (hk : W.cell? ⟨kb, 0, none⟩ = some (.func (.func f) #[] cb)) {x y : Int} (x0 : 0 ≤ x) (x1 : x < n0) (y0 : 0 ≤ y) (y1 : y < n0) :
    Calls Try.prog 36 #[.int .i64 x, .int .i64 y, .pointer (some ⟨kb, 0, none⟩)] W fun e w' => e = .returned (.int .i64 (cmpv (co x.toNat) (co y.toNat))) ∧ ∃ q, w' = W.drewN q := by
  have HX : Hid (∀ k, Calls Try.prog f (#[.int .i64 x] ++ cb) (W.drewN k) fun e w' => e = .returned (.int .i64 (co x.toNat)) ∧ ∃ q, w' = (W.drewN k).drewN q) := fun k => (G _ (only_drewN hW k) x x0 x1).mono fun e w' h => ⟨h.1, 0, h.2.symm⟩
  have HY : Hid (∀ k, Calls Try.prog f (#[.int .i64 y] ++ cb) (W.drewN k) fun e w' => e = .returned (.int .i64 (co y.toNat)) ∧ ∃ q, w' = (W.drewN k).drewN q) := fun k => (G _ (only_drewN hW k) y y0 y1).mono fun e w' h => ⟨h.1, 0, h.2.symm⟩
  generalize co x.toNat = X at *
  generalize co y.toNat = Y at *
  have HC : Hid (∀ k, Calls Try.prog 37 #[.int .i64 X, .int .i64 Y] (W.drewN k) fun e w' => e = .returned (.int .i64 (cmpv X Y)) ∧ ∃ q, w' = (W.drewN k).drewN q) := fun k => (compare X Y _).mono fun e w' h => ⟨h.1, 0, h.2.symm⟩
  generalize cmpv X Y = C at *
  clear G hW
  go_enter Try.func36, Try.ntmps36
  go_wp2_with fail
  go_quiet ((first
    | (go_at_fn f; first | exact Calls.quiet_of (HX.out _) | exact Calls.quiet_of (HY.out _))
    | (go_at_call 37; exact Calls.quiet_of (HC.out _))))
  go_wp2
  go_ret
  exact ⟨rfl, _, rfl⟩
end
section
variable {w : World} {B n f : Nat} {v : Value} {xs : List Int} {cb : Array Value} {n0 : Nat} {co : Nat → Int}
theorem stab (hn : n ≤ 8) (fv : Value) (I : Calls Try.prog 45 #[v, .int .i64 0, .int .i64 n, fv] w fun e w' => e = .returned (.tuple #[]) ∧ w'.ownsRow B 3 1 v n (lc xs) ∧ Only v.ownBlock.toList w w') :
    Calls Try.prog 43 #[v, .int .i64 n, fv] w fun e w' => e = .returned (.tuple #[]) ∧ w'.ownsRow B 3 1 v n (lc xs) ∧ Only v.ownBlock.toList w w' := by
  have I := hidden I
  have hz : ¬ ((20 : Int) ≤ n) := by omega
  have hz2 : ¬ ((20 : Int) < n) := by omega
  go_enter Try.func43, Try.ntmps43
  go_wp2_with fail
  go_loopw [7, 8] (fun a b wr => a = .int .i64 0 ∧ b = .int .i64 20 ∧ Hid (w = wr)) (fun _ _ _ => 0)
  case atStart => exact ⟨rfl, rfl, rfl⟩
  case round =>
    obtain ⟨rfl, rfl, HB⟩ := hrel
    have e := HB.out
    subst e
    go_wp2_with fail
    refine Calls.mono I.out ?_
    rintro e w1 ⟨rfl, hown, ho⟩
    have END := hidden (And.intro hown ho)
    clear hown ho I HB
    go_wp2_with fail
    go_loopw [6] (fun a wr => a = .int .i64 20 ∧ Hid (w1 = wr)) (fun _ _ => 0)
    case atStart => exact ⟨rfl, rfl⟩
    case round =>
      obtain ⟨rfl, HB⟩ := hrel
      have e := HB.out
      subst e
      go_wp2
      go_end0
      exact ⟨rfl, END.out.1, END.out.2⟩
theorem sortStable (hn : n ≤ 8) (hv : ∃ a cap, v = .slice a n cap) (fv : Value) (I : Calls Try.prog 45 #[v, .int .i64 0, .int .i64 n, fv] w fun e w' => e = .returned (.tuple #[]) ∧ w'.ownsRow B 3 1 v n (lc xs) ∧ Only v.ownBlock.toList w w') :
    Calls Try.prog 35 #[v, fv] w fun e w' => e = .returned (.tuple #[]) ∧ w'.ownsRow B 3 1 v n (lc xs) ∧ Only v.ownBlock.toList w w' := by
  have S := hidden (stab hn fv I)
  clear I
  obtain ⟨a, cap, rfl⟩ := hv
  go_enter Try.func35, Try.ntmps35
  go_wp2_with fail
  refine Calls.mono S.out ?_
  rintro e w1 ⟨rfl, hown, ho⟩
  have END := hidden (And.intro hown ho)
  clear hown ho S
  go_wp2
  go_end0
  exact ⟨rfl, END.out.1, END.out.2⟩
theorem ranked (h : w.ownsRow B 3 1 v n (lc xs)) (hn : n ≤ 8) (hn0 : 0 < n0) (hx : ∀ x ∈ xs, 0 ≤ x ∧ x < (n0 : Int)) (hr : xs.Pairwise (· < ·)) (G : Gv v.ownBlock.toList w n0 f cb fun x => .int .i64 (co x.toNat)) (eg : ∀ args w, (callFunc f args).run Try.prog w = .ok (.enter f args) w) :
    Calls Try.prog 24 #[v, .func (.func f) #[] cb] w fun e w' => e = .returned v ∧ w'.ownsRow B 3 1 v n (lc (srt (lx co) xs)) ∧ Only v.ownBlock.toList w w' := by
  obtain ⟨w1, hw1⟩ : ∃ w1, w.alloc (.cells #[.func (.func f) #[] cb] 51) = w1 := ⟨_, rfl⟩
  have B1 : Below w.heap.size w w1 := hw1 ▸ (Below.refl _ w).alloc (Nat.le_refl _) _
  have H1 : Has w1 w.heap.size #[.func (.func f) #[] cb] 51 := hw1 ▸ Has.new _ _ _
  have hF : ∀ k ∈ v.ownBlock.toList, k < w.heap.size := fun k hk => (own_base h k (by simpa using hk)).2
  have O1 : Only v.ownBlock.toList w w1 := Only.of_below B1
  have I := stable (co := co) (cf := fun x y => cmpv (co x.toNat) (co y.toNat)) (fun x y _ _ => cmpv_neg _ _) (row_below h B1) hn hn0 hx hr (f := 36) (cb := #[.pointer (some ⟨w.heap.size, 0, none⟩)])
    (fun W hW x y x0 x1 y0 y1 => rank1 (G.turn O1) eg hW ((H1.stay hW (not_old hF (Nat.le_refl _))).cell 0 rfl) x0 x1 y0 y1) entersR
  obtain ⟨a, cap, rfl⟩ := Ba.own_len h
  have S := hidden (sortStable hn ⟨a, cap, rfl⟩ _ I)
  have HO := hidden O1
  have HW := hidden hw1
  clear I h hx hr G B1 H1 hF O1 hw1
  go_enter Try.func24, Try.ntmps24
  go_wp2_with fail
  rw [HW.out]
  refine Calls.mono S.out ?_
  rintro e w2 ⟨rfl, hown, ho⟩
  have END := hidden (And.intro hown (HO.out.then ho))
  clear hown ho S
  go_wp2
  go_ret
  exact ⟨rfl, END.out.1, END.out.2⟩
end
end Go.Proofs.Ytcflcibncbipbaa.Sc
