/-
  Paths: a path as a value, in memory; its counter of errors and its heartbeat.
  Conditions: as at each lemma.
-/
import Derived.Test.YtfofcaedblhegaaOw
import Derived.Lib.MinMax
import Derived.Deep.Cut
import Derived.Deep.QuietTactic
import Derived.BigQuiet
import Derived.BigRegion
import Derived.Laws.ResultCell
import Derived.Carry
namespace Go.Proofs.Ytfofcaedblhegaa.Pa
open Go.ChangeShapes Go.WideShapes Go.ChangeAt Go.RowKit
open Ba (hidden Has Only)
open Ow (Own)
set_option linter.unusedVariables false

/-- a path: errors, Fail, Max, number and opening and beginning of the last heartbeat, Pause, last use -/
structure S where
  er : Int
  fl : Int
  mx : Int
  nu : Int
  op : Bool
  bg : Int
  pa : Int
  us : Int
def cp (s : S) : Array Value := #[.int .i64 s.er, .int .i64 s.fl, .int .i64 s.mx, .int .u32 s.nu, .bool s.op, .int .i64 s.bg, .int .i64 s.pa, .int .i64 s.us]
def cr (s : S) : Array Value := #[.int .i64 s.mx, .int .i64 s.fl, .int .i64 s.pa, .int .i64 s.er, .int .i64 s.us, .bool s.op, .int .u32 s.nu, .int .i64 s.bg]
def Cd (w : World) (b : Nat) (s : S) : Prop := Has w b (cp s) 56
def Rf (w : World) (b : Nat) (s : S) : Prop := Has w b (cr s) 66
/-- numbers that may be -/
structure Inv (s : S) : Prop where
  er : 0 ≤ s.er ∧ s.er ≤ s.mx + 1
  fl : 0 ≤ s.fl ∧ s.fl ≤ s.mx
  mx : s.mx ≤ 100
  nu : 0 ≤ s.nu ∧ s.nu < 4294967296
  bg : 0 ≤ s.bg ∧ s.bg ≤ 1099511627776
  pa : 1 ≤ s.pa ∧ s.pa ≤ 2147483648
  us : 0 ≤ s.us ∧ s.us ≤ 1099511627776
/-- its state -/
def stI (s : S) : Int := if s.mx < s.er then 3 else if s.fl < s.er then 2 else 1
def setE (s : S) (n : Int) : S := { s with er := n }
def failS (s : S) : S := setE s (min s.er s.mx + 1)
def goodS (s : S) : S := setE s 0
def useS (s : S) (n : Int) : S := { s with us := max s.us n }
def begS (s : S) (n : Int) : S := { s with nu := (s.nu + 1) % 4294967296, op := true, bg := n }
def endS (s : S) : S := { s with op := false, bg := 0 }
def shutS (s : S) : S := { s with op := false }
/-- is the state another one? -/
def chg (s s' : S) : Bool := !(decide (stI s' = stI s))
theorem below_drewN (w : World) (n : Nat) : Below w.heap.size w (w.drewN n) := ⟨rfl, rfl, rfl, Nat.le_refl _, fun _ _ => rfl⟩
theorem below_drewN2 (w : World) (n m : Nat) : Below w.heap.size w ((w.drewN n).drewN m) := ⟨rfl, rfl, rfl, Nat.le_refl _, fun _ _ => rfl⟩
theorem Cd.later {w w' : World} {b : Nat} {s : S} (h : Cd w b s) (hB : Below w.heap.size w w') : Cd w' b s := Has.later h hB
theorem Rf.later {w w' : World} {b : Nat} {s : S} (h : Rf w b s) (hB : Below w.heap.size w w') : Rf w' b s := Has.later h hB
section
variable {w : World} {b : Nat} {er fl mx nu : Int} {op : Bool} {bg pa us : Int}
theorem Cd.cells (h : Cd w b ⟨er, fl, mx, nu, op, bg, pa, us⟩) : (w.cell? ⟨b, 0, none⟩ = some (.int .i64 er) ∧ w.cell? ⟨b, 1, none⟩ = some (.int .i64 fl) ∧ w.cell? ⟨b, 2, none⟩ = some (.int .i64 mx) ∧ w.cell? ⟨b, 3, none⟩ = some (.int .u32 nu) ∧ w.cell? ⟨b, 4, none⟩ = some (.bool op) ∧ w.cell? ⟨b, 5, none⟩ = some (.int .i64 bg) ∧ w.cell? ⟨b, 6, none⟩ = some (.int .i64 pa) ∧ w.cell? ⟨b, 7, none⟩ = some (.int .i64 us)) ∧ b < w.heap.size :=
  ⟨⟨Has.cell h 0 rfl, Has.cell h 1 rfl, Has.cell h 2 rfl, Has.cell h 3 rfl, Has.cell h 4 rfl, Has.cell h 5 rfl, Has.cell h 6 rfl, Has.cell h 7 rfl⟩, Has.lt h⟩
theorem Rf.cells (h : Rf w b ⟨er, fl, mx, nu, op, bg, pa, us⟩) : (w.cell? ⟨b, 0, none⟩ = some (.int .i64 mx) ∧ w.cell? ⟨b, 1, none⟩ = some (.int .i64 fl) ∧ w.cell? ⟨b, 2, none⟩ = some (.int .i64 pa) ∧ w.cell? ⟨b, 3, none⟩ = some (.int .i64 er) ∧ w.cell? ⟨b, 4, none⟩ = some (.int .i64 us) ∧ w.cell? ⟨b, 5, none⟩ = some (.bool op) ∧ w.cell? ⟨b, 6, none⟩ = some (.int .u32 nu) ∧ w.cell? ⟨b, 7, none⟩ = some (.int .i64 bg)) ∧ b < w.heap.size :=
  ⟨⟨Has.cell h 0 rfl, Has.cell h 1 rfl, Has.cell h 2 rfl, Has.cell h 3 rfl, Has.cell h 4 rfl, Has.cell h 5 rfl, Has.cell h 6 rfl, Has.cell h 7 rfl⟩, Has.lt h⟩
end
theorem Cd.frozen {w : World} {b : Nat} {s : S} (h : Cd w b s) (i : Nat) : w.frozen? ⟨b, i, none⟩ = false := Has.frozen h i
theorem Rf.frozen {w : World} {b : Nat} {s : S} (h : Rf w b s) (i : Nat) : w.frozen? ⟨b, i, none⟩ = false := Has.frozen h i
section
variable {w : World} {b : Nat} {s : S}
theorem state (h : Cd w b s) : Calls Try.prog 36 #[.pointer (some ⟨b, 0, none⟩)] w fun e w' => e = .returned (.int .i64 (stI s)) ∧ Below w.heap.size w w' := by
  obtain ⟨er, fl, mx, nu, op, bg, pa, us⟩ := s
  obtain ⟨⟨c0, c1, c2, _, _, _, _, _⟩, hb⟩ := Cd.cells h
  simp only [stI]
  clear h
  by_cases h1 : mx < er
  · rw [if_pos h1]
    go_enter Try.func36, Try.ntmps36
    go_wp2
    go_quiet (fail)
    go_wp2
    go_ret
    exact ⟨rfl, below_drewN _ _⟩
  · rw [if_neg h1]
    by_cases h2 : fl < er
    · rw [if_pos h2]
      go_enter Try.func36, Try.ntmps36
      go_wp2
      go_quiet (fail)
      go_wp2
      go_quiet (fail)
      go_wp2
      go_ret
      exact ⟨rfl, below_drewN2 _ _ _⟩
    · rw [if_neg h2]
      go_enter Try.func36, Try.ntmps36
      go_wp2
      go_quiet (fail)
      go_wp2
      go_quiet (fail)
      go_wp2
      go_ret
      exact ⟨rfl, below_drewN2 _ _ _⟩
theorem isTime (n : Int) (w : World) : Calls Try.prog 23 #[.int .i64 n] w fun e w' => e = .returned (.bool (decide (0 ≤ n ∧ n ≤ 1099511627776))) ∧ w = w' := by
  go_enter Try.func23, Try.ntmps23
  go_wp2
  all_goals go_ret
  all_goals (refine ⟨congrArg Ending.returned (congrArg Value.bool ?_), rfl⟩)
  all_goals (first | (symm; apply decide_eq_true; omega) | (symm; apply decide_eq_false; omega) | (rw [Bool.eq_iff_iff]; simp; omega))
theorem rtime (n : Int) (w : World) : Calls Try.prog 25 #[.int .i64 n] w fun e w' => e = .returned (.bool (decide (0 ≤ n ∧ n ≤ 1099511627776))) ∧ w = w' := by
  go_enter Try.func25, Try.ntmps25
  go_wp2
  all_goals go_ret
  all_goals (refine ⟨congrArg Ending.returned (congrArg Value.bool ?_), rfl⟩)
  all_goals (first | (symm; apply decide_eq_true; omega) | (symm; apply decide_eq_false; omega) | (rw [Bool.eq_iff_iff]; simp; omega))
theorem isWait (n : Int) (w : World) : Calls Try.prog 42 #[.int .i64 n] w fun e w' => e = .returned (.bool (decide (1 ≤ n ∧ n ≤ 2147483648))) ∧ w = w' := by
  go_enter Try.func42, Try.ntmps42
  go_wp2
  all_goals go_ret
  all_goals (refine ⟨congrArg Ending.returned (congrArg Value.bool ?_), rfl⟩)
  all_goals (first | (symm; apply decide_eq_true; omega) | (symm; apply decide_eq_false; omega) | (rw [Bool.eq_iff_iff]; simp; omega))
theorem unmade (h : Cd w b s) (hI : Inv s) : Calls Try.prog 34 #[.pointer (some ⟨b, 0, none⟩)] w fun e w' => e = .returned (.bool false) ∧ w = w' := by
  have hp := hI.pa
  obtain ⟨er, fl, mx, nu, op, bg, pa, us⟩ := s
  obtain ⟨⟨_, _, _, _, _, _, c6, _⟩, hb⟩ := Cd.cells h
  simp only at hp
  have hq : (pa == 0) = false := beq_eq_false_iff_ne.2 (by omega)
  clear h hI
  go_enter Try.func34, Try.ntmps34
  go_wp2
  go_ret
  exact ⟨rfl, rfl⟩
theorem use (h : Cd w b s) (n : Int) : Calls Try.prog 38 #[.pointer (some ⟨b, 0, none⟩), .int .i64 n] w fun e w' => e = .returned (.tuple #[]) ∧ Cd w' b (useS s n) ∧ Only [b] w w' := by
  obtain ⟨er, fl, mx, nu, op, bg, pa, us⟩ := s
  obtain ⟨⟨_, _, _, _, _, _, _, c7⟩, hb⟩ := Cd.cells h
  have f7 := h.frozen 7
  have H := hidden h
  clear h
  go_enter Try.func38, Try.ntmps38
  go_wp2
  go_end0
  refine ⟨rfl, Has.set H.out 7 (.int .i64 (max us n)), Only.setCell (F := [b]) w (p := ⟨b, 7, none⟩) (by simp) _⟩
theorem begin_ (h : Cd w b s) (hI : Inv s) (n : Int) : Calls Try.prog 39 #[.pointer (some ⟨b, 3, none⟩), .int .i64 n] w fun e w' => e = .returned (.int .u32 ((s.nu + 1) % 4294967296)) ∧ Cd w' b (begS s n) ∧ Only [b] w w' := by
  have hn := hI.nu
  obtain ⟨er, fl, mx, nu, op, bg, pa, us⟩ := s
  obtain ⟨⟨_, _, _, c3, c4, c5, _, _⟩, hb⟩ := Cd.cells h
  have f3 := h.frozen 3
  have f4 := h.frozen 4
  have f5 := h.frozen 5
  have H := hidden h
  simp only at hn
  have hw : IntKind.u32.wrap (nu + 1) = (nu + 1) % 4294967296 := rfl
  clear h hI
  go_enter Try.func39, Try.ntmps39
  go_wp2
  go_ret
  refine ⟨rfl, Has.set (Has.set (Has.set H.out 3 (.int .u32 ((nu + 1) % 4294967296))) 4 (.bool true)) 5 (.int .i64 n), ?_⟩
  exact ((Only.setCell (F := [b]) w (p := ⟨b, 3, none⟩) (by simp) _).then (Only.setCell (F := [b]) _ (p := ⟨b, 4, none⟩) (by simp) _)).then (Only.setCell (F := [b]) _ (p := ⟨b, 5, none⟩) (by simp) _)
theorem end_ (h : Cd w b s) : Calls Try.prog 41 #[.pointer (some ⟨b, 3, none⟩)] w fun e w' => e = .returned (.int .i64 s.bg) ∧ Cd w' b (endS s) ∧ Only [b] w w' := by
  obtain ⟨er, fl, mx, nu, op, bg, pa, us⟩ := s
  obtain ⟨⟨_, _, _, _, c4, c5, _, _⟩, hb⟩ := Cd.cells h
  have f4 := h.frozen 4
  have f5 := h.frozen 5
  have H := hidden h
  clear h
  go_enter Try.func41, Try.ntmps41
  go_wp2
  go_ret
  refine ⟨rfl, Has.set (Has.set H.out 4 (.bool false)) 5 (.int .i64 0), ?_⟩
  exact (Only.setCell (F := [b]) w (p := ⟨b, 4, none⟩) (by simp) _).then (Only.setCell (F := [b]) _ (p := ⟨b, 5, none⟩) (by simp) _)
/-- may an answer end it? -/
def ansB (s : S) (m n : Int) : Bool := s.op && (decide (s.nu = m) && decide (s.bg ≤ n))
theorem answered (h : Cd w b s) (m n : Int) : Calls Try.prog 40 #[.pointer (some ⟨b, 3, none⟩), .int .u32 m, .int .i64 n] w fun e w' => e = .returned (.bool (ansB s m n)) ∧ w = w' := by
  obtain ⟨er, fl, mx, nu, op, bg, pa, us⟩ := s
  obtain ⟨⟨_, _, _, c3, c4, c5, _, _⟩, hb⟩ := Cd.cells h
  clear h
  simp only [ansB]
  cases op
  · go_enter Try.func40, Try.ntmps40
    go_wp2
    go_ret
    exact ⟨rfl, rfl⟩
  · by_cases hm : nu = m
    · subst hm
      go_enter Try.func40, Try.ntmps40
      go_wp2
      go_ret
      exact ⟨by simp, rfl⟩
    · have hm2 : (nu == m) = false := beq_eq_false_iff_ne.2 hm
      go_enter Try.func40, Try.ntmps40
      go_wp2
      go_ret
      exact ⟨by simp [hm], rfl⟩
theorem set0 (h : Cd w b s) : (∃ x, w.cell? ⟨b, 0, none⟩ = some (.int .i64 x)) ∧ w.frozen? ⟨b, 0, none⟩ = false ∧ b < w.heap.size := ⟨⟨s.er, Has.cell h 0 rfl⟩, Has.frozen h 0, Has.lt h⟩
theorem become (h : Cd w b s) (n : Int) : Calls Try.prog 43 #[.pointer (some ⟨b, 0, none⟩), .int .i64 n] w fun e w' => e = .returned (.bool (chg s (setE s n))) ∧ Cd w' b (setE s n) ∧ Only [b] w w' := by
  have ST : Hid (∀ (W : World) (x : S), Cd W b x → Calls Try.prog 36 #[.pointer (some ⟨b, 0, none⟩)] W fun e w' => e = .returned (.int .i64 (stI x)) ∧ Below W.heap.size W w') := fun W x h => state h
  have H := hidden h
  clear h
  have X : chg s (setE s n) = !(decide (stI (setE s n) = stI s)) := rfl
  rw [X]
  clear X
  obtain ⟨s', hs'⟩ : ∃ s', setE s n = s' := ⟨_, rfl⟩
  rw [hs']
  have HS := hidden hs'
  clear hs'
  generalize hx0 : stI s = x0
  have HX := hidden hx0
  clear hx0
  generalize hx1 : stI s' = x1
  have HX1 := hidden hx1
  clear hx1
  go_enter Try.func43, Try.ntmps43
  go_wp2_with fail
  refine Calls.mono (ST.out _ _ H.out) ?_
  rintro e w1 ⟨rfl, hB1⟩
  rw [HX.out]
  have H1 := hidden (H.out.later hB1)
  have O1 := hidden (Only.of_below (F := [b]) hB1)
  obtain ⟨⟨x, c0⟩, f0, hb⟩ := set0 H1.out
  have H2 : Hid (Cd (w1.setCell ⟨b, 0, none⟩ (.int .i64 n)) b s') := HS.out ▸ Has.set H1.out 0 (.int .i64 n)
  have O2 := hidden (O1.out.then (Only.setCell (F := [b]) w1 (p := ⟨b, 0, none⟩) (by simp) (.int .i64 n)))
  clear hB1 H H1 O1
  go_wp2_with fail
  refine Calls.mono (ST.out _ _ H2.out) ?_
  rintro e w2 ⟨rfl, hB2⟩
  have H3 := hidden (H2.out.later hB2)
  have O3 := hidden (O2.out.then (Only.of_below hB2))
  rw [HX1.out]
  clear hB2 H2 O2 c0 f0
  go_wp2
  go_ret
  exact ⟨congrArg Ending.returned (congrArg Value.bool (by rw [Bool.eq_iff_iff]; simp)), H3.out, O3.out⟩
theorem forget (h : Cd w b s) : Calls Try.prog 37 #[.pointer (some ⟨b, 0, none⟩)] w fun e w' => e = .returned (.bool (chg s (goodS s))) ∧ Cd w' b (goodS s) ∧ Only [b] w w' := by
  have B := hidden (become h 0)
  have e0 : goodS s = setE s 0 := rfl
  rw [e0]
  generalize setE s 0 = s' at B
  clear e0
  generalize chg s s' = x at B
  go_enter Try.func37, Try.ntmps37
  go_wp2_with fail
  refine Calls.mono B.out ?_
  rintro e w1 ⟨rfl, h1, h2⟩
  have H1 := hidden h1
  have H2 := hidden h2
  clear h1 h2
  go_wp2
  go_ret
  exact ⟨rfl, H1.out, H2.out⟩
end
end Go.Proofs.Ytfofcaedblhegaa.Pa
