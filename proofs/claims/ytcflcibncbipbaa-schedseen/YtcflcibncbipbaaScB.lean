/-
  The functions that are handed in, and the paths of one state among them.
  Conditions: as at each lemma.
-/
import Derived.Test.YtcflcibncbipbaaScA
namespace Go.Proofs.Ytcflcibncbipbaa.Sc
open Go.ChangeShapes Go.WideShapes Go.ChangeAt Go.RowKit
open Ba (hidden Has Only)
open Ow (Own)
set_option linter.unusedVariables false

theorem infoI : (Try.prog.info? 3).map (fun i => (i.zero, i.size, i.bytes)) = some (some (.int .i64 0), 1, 8) := by kernel_rfl
/-- a new block of one number -/
theorem cell1 (w : World) (x : Int) : ∀ j u, (lc [x])[j]? = some u → (w.alloc (.cells #[.int .i64 x] 3)).cell? ((⟨w.heap.size, 0, none⟩ : Addr).add j) = some u := by
  intro j u hj
  rw [Go.WideShapes.add_plain, Nat.zero_add]
  match j, hj with
  | 0, hj => exact (Has.new w #[.int .i64 x] 3).cell 0 (by simpa [lc] using hj)
/-- one number more -/
theorem app1 {w : World} {base k : Nat} {v : Value} {xs : List Int} (h : w.ownsRow base 3 1 v k (lc xs)) (hk : k < 100) (hb : base ≤ w.heap.size) (x : Int) : ∃ v' w', (Builtin.append_ #[23, 23] 23 #[v, .slice (some ⟨w.heap.size, 0, none⟩) 1 1]).run Try.prog (w.alloc (.cells #[.int .i64 x] 3)) = .ok v' w' ∧ w'.ownsRow base 3 1 v' (k + 1) (lc (xs ++ [x])) ∧ (w.alloc (.cells #[.int .i64 x] 3)).grownBy w' v.ownBlock ∧ (v'.ownBlock = v.ownBlock ∨ v'.ownBlock = some (w.heap.size + 1)) := by
  have AP := Ba.append_at (P := Try.prog) (t := 23) (ty := 23) (c := 1) Try.underlying23 infoI rfl (by decide) (h.alloc (.cells #[.int .i64 x] 3)) (m := 1) (ad := ⟨w.heap.size, 0, none⟩) (news := lc [x]) (by simp [lc]) (cell1 w _) (lc_one _) (.inl (by decide)) (by unfold maxLen; omega) (by omega) (by simp; omega)
  obtain ⟨v', w1, hr, hown1, hgr, hwh⟩ := AP
  rw [← lc_app] at hown1
  refine ⟨v', w1, hr, hown1, hgr, ?_⟩
  rcases hwh with e | e
  · exact .inl e
  · exact .inr (by rw [e]; simp)
/-- where the row was and where it is -/
theorem own_where {w w' : World} {base : Nat} {v v' : Value} {o : Obj} {m : Nat} (hv : ∀ g, v.ownBlock = some g → base ≤ g) (hb : base ≤ w.heap.size) (h : v'.ownBlock = v.ownBlock ∨ v'.ownBlock = some (w.heap.size + 1)) : ∀ g, v'.ownBlock = some g → base ≤ g := by
  intro g hg
  rcases h with e | e
  · exact hv g (e ▸ hg)
  · rw [e] at hg
    cases hg
    omega
theorem own_base {w : World} {base E s n : Nat} {v : Value} {xs : List Value} (h : w.ownsRow base E s v n xs) : ∀ g, v.ownBlock = some g → base ≤ g ∧ g < w.heap.size := fun g hg => ⟨by
  rcases h.2 with ⟨rfl, _⟩ | ⟨g', cap, cur, rfl, hb, _⟩
  · cases hg
  · cases hg; exact hb, by
  rcases h.2 with ⟨rfl, _⟩ | ⟨g', cap, cur, rfl, hb, hh, _⟩
  · cases hg
  · cases hg; exact Ba.heap_lt hh⟩
/-- what grew is new -/
theorem grown_below {w w' : World} {r : Option Nat} {n : Nat} {x : Int} (hg : (w.alloc (.cells #[.int .i64 x] 3)).grownBy w' r) (hn : n ≤ w.heap.size) (hr : ∀ g, r = some g → n ≤ g) : Below n w w' :=
  ((Below.refl n w).alloc hn (.cells #[.int .i64 x] 3)).trans ⟨hg.os, hg.tape, hg.output, hg.size, fun k hk => hg.block k (by simp; omega) fun e => by
    have := hr k e.symm
    omega⟩

theorem all_ (x : Int) (w : World) : Calls Try.prog 20 #[.int .i64 x] w fun e w' => e = .returned (.bool true) ∧ w = w' := by
  go_enter Try.func20, Try.ntmps20
  go_wp2
  go_ret
  exact ⟨rfl, rfl⟩
theorem other {w : World} {b : Nat} {m : Int} (h : w.cell? ⟨b, 0, none⟩ = some (.int .i64 m)) (x : Int) : Calls Try.prog 30 #[.int .i64 x, .pointer (some ⟨b, 0, none⟩)] w fun e w' => e = .returned (.bool (decide (x ≠ m))) ∧ w = w' := by
  by_cases e : x = m
  · rw [decide_eq_false (by omega)]
    have e' : (x : Int) = m := e
    clear e
    subst e'
    go_enter Try.func30, Try.ntmps30
    go_wp2
    go_ret
    exact ⟨rfl, rfl⟩
  · rw [decide_eq_true (by omega)]
    go_enter Try.func30, Try.ntmps30
    go_wp2
    go_ret
    exact ⟨by simp [e], rfl⟩
section
variable {w : World} {a : Option Addr} {n cap vb : Nat} {vs : List Vw}
theorem unfit (h : Vs w a n vs) (hv : w.cell? ⟨vb, 0, none⟩ = some (.slice a n cap)) {x : Int} (h0 : 0 ≤ x) (h1 : x < n) : Calls Try.prog 21 #[.int .i64 x, .pointer (some ⟨vb, 0, none⟩)] w fun e w' => e = .returned (.bool (!fitq vs x.toNat)) ∧ w = w' := by
  have hn : n ≤ 140737488355328 := h.2.2.1
  obtain ⟨b, off, rfl, hb⟩ := Vs.open h (by omega)
  obtain ⟨c0, c1, c2, c3⟩ := Vs.get h (q := x.toNat) (by omega)
  have HF : Hid (fitq vs x.toNat = !(decide (spc vs x.toNat = 0) || !shr vs x.toNat)) := rfl
  generalize fitq vs x.toNat = F at *
  generalize spc vs x.toNat = S at *
  generalize shr vs x.toNat = B at *
  clear h c0 c2
  by_cases e : S = 0
  · have HE : Hid (F = false) := by
      show F = false
      rw [HF.out, decide_eq_true e]
      rfl
    subst e
    go_enter Try.func21, Try.ntmps21
    go_wp2
    go_ret
    exact ⟨by rw [HE.out]; rfl, rfl⟩
  · have HE : Hid (F = B) := by
      show F = B
      rw [HF.out, decide_eq_false e]
      cases B <;> rfl
    go_enter Try.func21, Try.ntmps21
    go_wp2
    go_ret
    exact ⟨by rw [HE.out]; cases B <;> simp [e], rfl⟩
theorem cost1 (h : Vs w a n vs) (hv : w.cell? ⟨vb, 0, none⟩ = some (.slice a n cap)) {x : Int} (h0 : 0 ≤ x) (h1 : x < n) : Calls Try.prog 38 #[.int .i64 x, .pointer (some ⟨vb, 0, none⟩)] w fun e w' => e = .returned (.int .i64 (trp vs x.toNat)) ∧ w = w' := by
  have hn : n ≤ 140737488355328 := h.2.2.1
  obtain ⟨b, off, rfl, hb⟩ := Vs.open h (by omega)
  obtain ⟨c0, c1, c2, c3⟩ := Vs.get h (q := x.toNat) (by omega)
  generalize trp vs x.toNat = F at *
  clear h c0 c1 c3
  go_enter Try.func38, Try.ntmps38
  go_wp2
  go_ret
  exact ⟨rfl, rfl⟩
theorem cost2 (h : Vs w a n vs) (hv : w.cell? ⟨vb, 0, none⟩ = some (.slice a n cap)) {x : Int} (h0 : 0 ≤ x) (h1 : x < n) (hs : 0 ≤ spc vs x.toNat ∧ spc vs x.toNat ≤ 1073741824) : Calls Try.prog 39 #[.int .i64 x, .pointer (some ⟨vb, 0, none⟩)] w fun e w' => e = .returned (.int .i64 (- spc vs x.toNat)) ∧ w = w' := by
  have hn : n ≤ 140737488355328 := h.2.2.1
  obtain ⟨b, off, rfl, hb⟩ := Vs.open h (by omega)
  obtain ⟨c0, c1, c2, c3⟩ := Vs.get h (q := x.toNat) (by omega)
  have hw : IntKind.i64.wrap (- spc vs x.toNat) = - spc vs x.toNat := by rw [IntKind.wrap_i64]; omega
  generalize spc vs x.toNat = F at *
  clear h c0 c2 c3
  go_enter Try.func39, Try.ntmps39
  go_wp2
  go_ret
  exact ⟨rfl, rfl⟩
theorem cost3 {fb : Nat} {f : Int} (hn : 0 < n ∧ n ≤ 8) (hv : w.cell? ⟨vb, 0, none⟩ = some (.slice a n cap)) (hf : w.cell? ⟨fb, 0, none⟩ = some (.int .i64 f)) (hf1 : 0 ≤ f ∧ f ≤ n) {x : Int} (h0 : 0 ≤ x) (h1 : x < n) : Calls Try.prog 40 #[.int .i64 x, .pointer (some ⟨fb, 0, none⟩), .pointer (some ⟨vb, 0, none⟩)] w fun e w' => e = .returned (.int .i64 ((x - f + n) % n)) ∧ w = w' := by
  have g1 : IntKind.i64.wrap (x - f) = x - f := by rw [IntKind.wrap_i64]; omega
  have g2 : IntKind.i64.wrap (x - f + n) = x - f + n := by rw [IntKind.wrap_i64]; omega
  have g3 : (x - f + n).tmod n = (x - f + n) % n := Int.tmod_eq_emod_of_nonneg (by omega)
  have g4 : IntKind.i64.wrap ((x - f + n) % n) = (x - f + n) % n := by
    have := Int.emod_nonneg (x - f + n) (show (n : Int) ≠ 0 by omega)
    have := Int.emod_lt_of_pos (x - f + n) (show 0 < (n : Int) by omega)
    rw [IntKind.wrap_i64]
    omega
  have hn0 : ¬ ((n : Int) = 0) := by omega
  generalize hR : (x - f + n) % n = R at *
  clear hR
  go_enter Try.func40, Try.ntmps40
  go_wp2
  go_ret
  exact ⟨rfl, rfl⟩
end
end Go.Proofs.Ytcflcibncbipbaa.Sc
