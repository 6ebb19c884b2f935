/-
  Paths: the code's and the document's side by side; acts.
  Conditions: both lie in memory, and are the same path.
-/
import Derived.Test.YtfofcaedblhegaaPaD
namespace Go.Proofs.Ytfofcaedblhegaa.Pa
open Go.ChangeShapes Go.WideShapes Go.ChangeAt Go.RowKit
open Ba (hidden Has Only)
open Ow (Own)
set_option linter.unusedVariables false

/-- the code's path, where the document's is s: it keeps no beginning of a heartbeat that is over -/
def nrm (s : S) : S := { s with bg := bif s.op then s.bg else 0 }
theorem Inv.nrm {s : S} (h : Inv s) : Inv (nrm s) := ⟨h.er, h.fl, h.mx, h.nu, by have := h.bg; unfold Pa.nrm; cases s.op <;> simp only [cond_true, cond_false] <;> omega, h.pa, h.us⟩
theorem nrm_beat (s : S) (n : Int) : nrm (beatS s n) = beatS (nrm s) n := by
  obtain ⟨er, fl, mx, nu, op, bg, pa, us⟩ := s
  unfold beatS nrm
  cases op <;> cases tok n <;> rfl
theorem nrm_used (s : S) (n : Int) : nrm (usedS s n) = usedS (nrm s) n := by
  unfold usedS nrm
  cases tok n <;> rfl
theorem nrm_ans (s : S) (m n : Int) : ansB (nrm s) m n = ansB s m n := by
  obtain ⟨er, fl, mx, nu, op, bg, pa, us⟩ := s
  unfold ansB nrm
  cases op <;> rfl
theorem ans_op {s : S} {m n : Int} (h : ansB s m n = true) : s.op = true := by
  unfold ansB at h
  cases ho : s.op
  · rw [ho] at h; cases h
  · rfl
theorem nrm_hear (s : S) (m n : Int) : nrm (hearS shutS s m n) = hearS endS (nrm s) m n ∧ hearA (nrm s) m n = hearA s m n ∧ hearB (nrm s) m n = hearB s m n ∧ hearE (nrm s) m n = hearE s m n := by
  unfold hearS hearA hearB hearE
  rw [nrm_ans]
  cases ha : ansB s m n
  · refine ⟨?_, ?_, ?_, ?_⟩ <;> cases tok n <;> rfl
  · have ho := ans_op ha
    obtain ⟨er, fl, mx, nu, op, bg, pa, us⟩ := s
    simp only at ho
    subst ho
    refine ⟨?_, ?_, ?_, ?_⟩ <;> cases tok n <;> rfl
theorem nrm_miss (s : S) : nrm (missS shutS s) = missS endS (nrm s) ∧ missB (nrm s) = missB s ∧ missE (nrm s) = missE s := by
  obtain ⟨er, fl, mx, nu, op, bg, pa, us⟩ := s
  cases op <;> exact ⟨rfl, rfl, rfl⟩
section
variable {w : World} {b : Nat} {s : S}
theorem failP (h : Cd w b (nrm s)) (hI : Inv s) : Calls Try.prog 12 #[.pointer (some ⟨b, 0, none⟩)] w fun e w' => e = .returned (.tuple #[.bool (chg s (failS s)), .int .i64 0]) ∧ Cd w' b (nrm (failS s)) ∧ Only [b] w w' := failX h hI.nrm
theorem goodP (h : Cd w b (nrm s)) (hI : Inv s) : Calls Try.prog 14 #[.pointer (some ⟨b, 0, none⟩)] w fun e w' => e = .returned (.tuple #[.bool (chg s (goodS s)), .int .i64 0]) ∧ Cd w' b (nrm (goodS s)) ∧ Only [b] w w' := goodX h hI.nrm
theorem usedP (h : Cd w b (nrm s)) (hI : Inv s) (n : Int) : Calls Try.prog 21 #[.pointer (some ⟨b, 0, none⟩), .int .i64 n] w fun e w' => e = .returned (.int .i64 (usedE n)) ∧ Cd w' b (nrm (usedS s n)) ∧ Only [b] w w' := by
  rw [nrm_used]
  exact usedX h hI.nrm n
theorem askP (h : Cd w b (nrm s)) (hI : Inv s) (n : Int) : Calls Try.prog 18 #[.pointer (some ⟨b, 0, none⟩), .int .i64 n] w fun e w' => e = .returned (.tuple #[.int .i64 (askA s n), .int .i64 (askE n)]) ∧ Below w.heap.size w w' := askX h hI.nrm n
theorem beatP (h : Cd w b (nrm s)) (hI : Inv s) (n : Int) : Calls Try.prog 16 #[.pointer (some ⟨b, 0, none⟩), .int .i64 n] w fun e w' => e = .returned (.tuple #[.int .u32 (beatN s n), .int .i64 (beatE s n)]) ∧ Cd w' b (nrm (beatS s n)) ∧ Only [b] w w' := by
  rw [nrm_beat]
  exact beatX h hI.nrm n
theorem heardP (h : Cd w b (nrm s)) (hI : Inv s) (m n : Int) : Calls Try.prog 17 #[.pointer (some ⟨b, 0, none⟩), .int .u32 m, .int .i64 n] w fun e w' => e = .returned (.tuple #[.int .i64 (hearA s m n), .bool (hearB s m n), .int .i64 (hearE s m n)]) ∧ Cd w' b (nrm (hearS shutS s m n)) ∧ Only [b] w w' := by
  obtain ⟨e1, e2, e3, e4⟩ := nrm_hear s m n
  rw [e1, ← e2, ← e3, ← e4]
  exact heardX h hI.nrm m n
theorem missedP (h : Cd w b (nrm s)) (hI : Inv s) : Calls Try.prog 19 #[.pointer (some ⟨b, 0, none⟩)] w fun e w' => e = .returned (.tuple #[.bool (missB s), .int .i64 (missE s)]) ∧ Cd w' b (nrm (missS shutS s)) ∧ Only [b] w w' := by
  obtain ⟨e1, e2, e3⟩ := nrm_miss s
  rw [e1, ← e2, ← e3]
  exact missedX h hI.nrm
end
/-- both, and an act's own block -/
def oc (kd n m : Int) : Array Value := #[.int .i64 kd, .int .i64 n, .int .u32 m]
abbrev L2 (b c : Nat) (p s : S) : List Ow.Bk := [(b, cp p, 56), (c, cr s, 66)]
abbrev L3 (b c d : Nat) (p s : S) (kd n m : Int) : List Ow.Bk := [(b, cp p, 56), (c, cr s, 66), (d, oc kd n m, 36)]
section
variable {w0 w w' : World} {b c d : Nat} {p s p' s' : S} {kd n m : Int}
theorem box3 (h : Own w0 w (L2 b c p s)) (kd n m : Int) : Own w0 (w.alloc (.cells #[.int .i64 kd, .int .i64 n, .int .u32 m] 36)) (L3 b c w.heap.size p s kd n m) := (h.alloc (oc kd n m) 36).sub (by simp [oc])
theorem cells3 (h : Own w0 w (L3 b c d p s kd n m)) : (w.cell? ⟨d, 0, none⟩ = some (.int .i64 kd) ∧ w.cell? ⟨d, 1, none⟩ = some (.int .i64 n) ∧ w.cell? ⟨d, 2, none⟩ = some (.int .u32 m)) ∧ d < w.heap.size :=
  ⟨⟨h.cell (.tail _ (.tail _ (.head _))) 0 rfl, h.cell (.tail _ (.tail _ (.head _))) 1 rfl, h.cell (.tail _ (.tail _ (.head _))) 2 rfl⟩, h.lt (.tail _ (.tail _ (.head _)))⟩
theorem has3b (h : Own w0 w (L3 b c d p s kd n m)) : Cd w b p := h.has (.head _)
theorem has3c (h : Own w0 w (L3 b c d p s kd n m)) : Rf w c s := h.has (.tail _ (.head _))
theorem two (h : Own w0 w (L3 b c d p s kd n m)) : Own w0 w (L2 b c p s) := h.sub (by simp)
theorem turn3b (h : Own w0 w (L3 b c d p s kd n m)) (hc : Cd w' b p') (ho : Only [b] w w') : Own w0 w' (L3 b c d p' s kd n m) := by
  refine h.turn ho hc fun x hx => ?_
  have h1 := h.has (.head _)
  have h2 := h.has (.tail _ (.head _))
  have h3 := h.has (.tail _ (.tail _ (.head _)))
  simp only [List.mem_cons, List.not_mem_nil, or_false] at hx
  rcases hx with rfl | rfl
  · exact Has.ne h2 h1 (by decide)
  · exact Has.ne h3 h1 (by decide)
theorem turn3c (h : Own w0 w (L3 b c d p s kd n m)) (hc : Rf w' c s') (ho : Only [c] w w') : Own w0 w' (L3 b c d p s' kd n m) := by
  have hq : Own w0 w [(c, cr s, 66), (b, cp p, 56), (d, oc kd n m, 36)] := h.sub (by simp)
  have := hq.turn (cs' := cr s') ho hc fun x hx => ?_
  · exact this.sub (by simp)
  · have h1 := h.has (.head _)
    have h2 := h.has (.tail _ (.head _))
    have h3 := h.has (.tail _ (.tail _ (.head _)))
    simp only [List.mem_cons, List.not_mem_nil, or_false] at hx
    rcases hx with rfl | rfl
    · exact Has.ne h1 h2 (by decide)
    · exact Has.ne h3 h2 (by decide)
end
section
variable {w0 w : World} {b c : Nat} {s : S}
set_option maxRecDepth 20000 in
set_option maxHeartbeats 1000000 in
theorem act1 (h : Own w0 w (L2 b c (nrm s) s)) (hI : Inv s) (n m : Int) : Calls Try.prog 10 #[.pointer (some ⟨b, 0, none⟩), .pointer (some ⟨c, 0, none⟩), .agg #[.int .i64 1, .int .i64 n, .int .u32 m]] w fun e w' => e = .returned (.bool true) ∧ Own w0 w' (L2 b c (nrm (failS s)) (failS s)) := by
  have C : Hid (∀ W, Cd W b (nrm s) → Calls Try.prog 12 #[.pointer (some ⟨b, 0, none⟩)] W fun e w' => e = .returned (.tuple #[.bool (chg s (failS s)), .int .i64 0]) ∧ Cd w' b (nrm (failS s)) ∧ Only [b] W w') := fun W h => failP h hI
  have R : Hid (∀ W, Rf W c s → Calls Try.prog 26 #[.pointer (some ⟨c, 0, none⟩)] W fun e w' => e = .returned (.bool (chg s (failS s))) ∧ Rf w' c (failS s) ∧ Only [c] W w') := fun W h => rfail h hI
  have O := hidden (box3 h 1 n m)
  clear h hI
  generalize chg s (failS s) = x0 at C R
  generalize failS s = s2 at C R ⊢
  generalize nrm s2 = p2 at C ⊢
  generalize nrm s = p1 at C O
  go_enter Try.func10, Try.ntmps10
  obtain ⟨⟨c0, c1, c2⟩, hl⟩ := cells3 O.out
  go_wp2_with fail
  refine Calls.mono (C.out _ (has3b O.out)) ?_
  rintro e w1 ⟨rfl, h1, h2⟩
  have O1 := hidden (turn3b O.out h1 h2)
  clear h1 h2 O c0 c1 c2
  obtain ⟨⟨c0, c1, c2⟩, hl1⟩ := cells3 O1.out
  go_wp2_with fail
  refine Calls.mono (R.out _ (has3c O1.out)) ?_
  rintro e w2 ⟨rfl, h1, h2⟩
  have O2 := hidden (turn3c O1.out h1 h2)
  clear h1 h2 O1 c0 c1 c2
  go_wp2
  go_ret
  exact ⟨rfl, two O2.out⟩
set_option maxRecDepth 20000 in
set_option maxHeartbeats 1000000 in
theorem act2 (h : Own w0 w (L2 b c (nrm s) s)) (hI : Inv s) (n m : Int) : Calls Try.prog 10 #[.pointer (some ⟨b, 0, none⟩), .pointer (some ⟨c, 0, none⟩), .agg #[.int .i64 2, .int .i64 n, .int .u32 m]] w fun e w' => e = .returned (.bool true) ∧ Own w0 w' (L2 b c (nrm (goodS s)) (goodS s)) := by
  have C : Hid (∀ W, Cd W b (nrm s) → Calls Try.prog 14 #[.pointer (some ⟨b, 0, none⟩)] W fun e w' => e = .returned (.tuple #[.bool (chg s (goodS s)), .int .i64 0]) ∧ Cd w' b (nrm (goodS s)) ∧ Only [b] W w') := fun W h => goodP h hI
  have R : Hid (∀ W, Rf W c s → Calls Try.prog 27 #[.pointer (some ⟨c, 0, none⟩)] W fun e w' => e = .returned (.bool (chg s (goodS s))) ∧ Rf w' c (goodS s) ∧ Only [c] W w') := fun W h => rgood h
  have O := hidden (box3 h 2 n m)
  clear h hI
  generalize chg s (goodS s) = x0 at C R
  generalize goodS s = s2 at C R ⊢
  generalize nrm s2 = p2 at C ⊢
  generalize nrm s = p1 at C O
  go_enter Try.func10, Try.ntmps10
  obtain ⟨⟨c0, c1, c2⟩, hl⟩ := cells3 O.out
  go_wp2_with fail
  refine Calls.mono (C.out _ (has3b O.out)) ?_
  rintro e w1 ⟨rfl, h1, h2⟩
  have O1 := hidden (turn3b O.out h1 h2)
  clear h1 h2 O c0 c1 c2
  obtain ⟨⟨c0, c1, c2⟩, hl1⟩ := cells3 O1.out
  go_wp2_with fail
  refine Calls.mono (R.out _ (has3c O1.out)) ?_
  rintro e w2 ⟨rfl, h1, h2⟩
  have O2 := hidden (turn3c O1.out h1 h2)
  clear h1 h2 O1 c0 c1 c2
  go_wp2
  go_ret
  exact ⟨rfl, two O2.out⟩
set_option maxRecDepth 20000 in
set_option maxHeartbeats 1000000 in
theorem act4 (h : Own w0 w (L2 b c (nrm s) s)) (hI : Inv s) (n m : Int) : Calls Try.prog 10 #[.pointer (some ⟨b, 0, none⟩), .pointer (some ⟨c, 0, none⟩), .agg #[.int .i64 4, .int .i64 n, .int .u32 m]] w fun e w' => e = .returned (.bool true) ∧ Own w0 w' (L2 b c (nrm (s)) (s)) := by
  have C : Hid (∀ W, Cd W b (nrm s) → Calls Try.prog 18 #[.pointer (some ⟨b, 0, none⟩), .int .i64 n] W fun e w' => e = .returned (.tuple #[.int .i64 (askA s n), .int .i64 (askE n)]) ∧ Below W.heap.size W w') := fun W h => askP h hI n
  have R : Hid (∀ W, Rf W c s → Calls Try.prog 29 #[.pointer (some ⟨c, 0, none⟩), .int .i64 n] W fun e w' => e = .returned (.tuple #[.int .i64 (askA s n), .int .i64 (askE n)]) ∧ Below W.heap.size W w') := fun W h => rask h hI n
  have O := hidden (box3 h 4 n m)
  clear h hI
  generalize askA s n = x0 at C R
  generalize askE n = x1 at C R
  generalize nrm s = p1 at C O ⊢
  go_enter Try.func10, Try.ntmps10
  obtain ⟨⟨c0, c1, c2⟩, hl⟩ := cells3 O.out
  go_wp2_with fail
  refine Calls.mono (C.out _ (has3b O.out)) ?_
  rintro e w1 ⟨rfl, hB⟩
  have O1 := hidden (O.out.later hB)
  clear hB O c0 c1 c2
  obtain ⟨⟨c0, c1, c2⟩, hl1⟩ := cells3 O1.out
  go_wp2_with fail
  refine Calls.mono (R.out _ (has3c O1.out)) ?_
  rintro e w2 ⟨rfl, hB⟩
  have O2 := hidden (O1.out.later hB)
  clear hB O1 c0 c1 c2
  go_wp2
  go_ret
  exact ⟨rfl, two O2.out⟩
set_option maxRecDepth 20000 in
set_option maxHeartbeats 1000000 in
theorem act5 (h : Own w0 w (L2 b c (nrm s) s)) (hI : Inv s) (n m : Int) : Calls Try.prog 10 #[.pointer (some ⟨b, 0, none⟩), .pointer (some ⟨c, 0, none⟩), .agg #[.int .i64 5, .int .i64 n, .int .u32 m]] w fun e w' => e = .returned (.bool true) ∧ Own w0 w' (L2 b c (nrm (beatS s n)) (beatS s n)) := by
  have C : Hid (∀ W, Cd W b (nrm s) → Calls Try.prog 16 #[.pointer (some ⟨b, 0, none⟩), .int .i64 n] W fun e w' => e = .returned (.tuple #[.int .u32 (beatN s n), .int .i64 (beatE s n)]) ∧ Cd w' b (nrm (beatS s n)) ∧ Only [b] W w') := fun W h => beatP h hI n
  have R : Hid (∀ W, Rf W c s → Calls Try.prog 30 #[.pointer (some ⟨c, 0, none⟩), .int .i64 n] W fun e w' => e = .returned (.tuple #[.int .u32 (beatN s n), .int .i64 (beatE s n)]) ∧ Rf w' c (beatS s n) ∧ Only [c] W w') := fun W h => rbeat h hI n
  have O := hidden (box3 h 5 n m)
  clear h hI
  generalize beatN s n = x0 at C R
  generalize beatE s n = x1 at C R
  generalize beatS s n = s2 at C R ⊢
  generalize nrm s2 = p2 at C ⊢
  generalize nrm s = p1 at C O
  go_enter Try.func10, Try.ntmps10
  obtain ⟨⟨c0, c1, c2⟩, hl⟩ := cells3 O.out
  go_wp2_with fail
  refine Calls.mono (C.out _ (has3b O.out)) ?_
  rintro e w1 ⟨rfl, h1, h2⟩
  have O1 := hidden (turn3b O.out h1 h2)
  clear h1 h2 O c0 c1 c2
  obtain ⟨⟨c0, c1, c2⟩, hl1⟩ := cells3 O1.out
  go_wp2_with fail
  refine Calls.mono (R.out _ (has3c O1.out)) ?_
  rintro e w2 ⟨rfl, h1, h2⟩
  have O2 := hidden (turn3c O1.out h1 h2)
  clear h1 h2 O1 c0 c1 c2
  go_wp2
  go_ret
  exact ⟨rfl, two O2.out⟩
set_option maxRecDepth 20000 in
set_option maxHeartbeats 1000000 in
theorem act6 (h : Own w0 w (L2 b c (nrm s) s)) (hI : Inv s) (n m : Int) : Calls Try.prog 10 #[.pointer (some ⟨b, 0, none⟩), .pointer (some ⟨c, 0, none⟩), .agg #[.int .i64 6, .int .i64 n, .int .u32 m]] w fun e w' => e = .returned (.bool true) ∧ Own w0 w' (L2 b c (nrm (hearS shutS s m n)) (hearS shutS s m n)) := by
  have C : Hid (∀ W, Cd W b (nrm s) → Calls Try.prog 17 #[.pointer (some ⟨b, 0, none⟩), .int .u32 m, .int .i64 n] W fun e w' => e = .returned (.tuple #[.int .i64 (hearA s m n), .bool (hearB s m n), .int .i64 (hearE s m n)]) ∧ Cd w' b (nrm (hearS shutS s m n)) ∧ Only [b] W w') := fun W h => heardP h hI m n
  have R : Hid (∀ W, Rf W c s → Calls Try.prog 31 #[.pointer (some ⟨c, 0, none⟩), .int .u32 m, .int .i64 n] W fun e w' => e = .returned (.tuple #[.int .i64 (hearA s m n), .bool (hearB s m n), .int .i64 (hearE s m n)]) ∧ Rf w' c (hearS shutS s m n) ∧ Only [c] W w') := fun W h => rheard h hI m n
  have O := hidden (box3 h 6 n m)
  clear h hI
  generalize hearA s m n = x0 at C R
  generalize hearB s m n = x1 at C R
  generalize hearE s m n = x2 at C R
  generalize hearS shutS s m n = s2 at C R ⊢
  generalize nrm s2 = p2 at C ⊢
  generalize nrm s = p1 at C O
  go_enter Try.func10, Try.ntmps10
  obtain ⟨⟨c0, c1, c2⟩, hl⟩ := cells3 O.out
  go_wp2_with fail
  refine Calls.mono (C.out _ (has3b O.out)) ?_
  rintro e w1 ⟨rfl, h1, h2⟩
  have O1 := hidden (turn3b O.out h1 h2)
  clear h1 h2 O c0 c1 c2
  obtain ⟨⟨c0, c1, c2⟩, hl1⟩ := cells3 O1.out
  go_wp2_with fail
  refine Calls.mono (R.out _ (has3c O1.out)) ?_
  rintro e w2 ⟨rfl, h1, h2⟩
  have O2 := hidden (turn3c O1.out h1 h2)
  clear h1 h2 O1 c0 c1 c2
  go_wp2
  go_ret
  exact ⟨rfl, two O2.out⟩
set_option maxRecDepth 20000 in
set_option maxHeartbeats 1000000 in
theorem act7 (h : Own w0 w (L2 b c (nrm s) s)) (hI : Inv s) (n m : Int) : Calls Try.prog 10 #[.pointer (some ⟨b, 0, none⟩), .pointer (some ⟨c, 0, none⟩), .agg #[.int .i64 7, .int .i64 n, .int .u32 m]] w fun e w' => e = .returned (.bool true) ∧ Own w0 w' (L2 b c (nrm (missS shutS s)) (missS shutS s)) := by
  have C : Hid (∀ W, Cd W b (nrm s) → Calls Try.prog 19 #[.pointer (some ⟨b, 0, none⟩)] W fun e w' => e = .returned (.tuple #[.bool (missB s), .int .i64 (missE s)]) ∧ Cd w' b (nrm (missS shutS s)) ∧ Only [b] W w') := fun W h => missedP h hI
  have R : Hid (∀ W, Rf W c s → Calls Try.prog 32 #[.pointer (some ⟨c, 0, none⟩)] W fun e w' => e = .returned (.tuple #[.bool (missB s), .int .i64 (missE s)]) ∧ Rf w' c (missS shutS s) ∧ Only [c] W w') := fun W h => rmissed h hI
  have O := hidden (box3 h 7 n m)
  clear h hI
  generalize missB s = x0 at C R
  generalize missE s = x1 at C R
  generalize missS shutS s = s2 at C R ⊢
  generalize nrm s2 = p2 at C ⊢
  generalize nrm s = p1 at C O
  go_enter Try.func10, Try.ntmps10
  obtain ⟨⟨c0, c1, c2⟩, hl⟩ := cells3 O.out
  go_wp2_with fail
  refine Calls.mono (C.out _ (has3b O.out)) ?_
  rintro e w1 ⟨rfl, h1, h2⟩
  have O1 := hidden (turn3b O.out h1 h2)
  clear h1 h2 O c0 c1 c2
  obtain ⟨⟨c0, c1, c2⟩, hl1⟩ := cells3 O1.out
  go_wp2_with fail
  refine Calls.mono (R.out _ (has3c O1.out)) ?_
  rintro e w2 ⟨rfl, h1, h2⟩
  have O2 := hidden (turn3c O1.out h1 h2)
  clear h1 h2 O1 c0 c1 c2
  go_wp2
  go_ret
  exact ⟨rfl, two O2.out⟩
set_option maxRecDepth 20000 in
set_option maxHeartbeats 1000000 in
theorem act3 (h : Own w0 w (L2 b c (nrm s) s)) (hI : Inv s) (n m : Int) : Calls Try.prog 10 #[.pointer (some ⟨b, 0, none⟩), .pointer (some ⟨c, 0, none⟩), .agg #[.int .i64 3, .int .i64 n, .int .u32 m]] w fun e w' => e = .returned (.bool true) ∧ Own w0 w' (L2 b c (nrm (usedS s n)) (usedS s n)) := by
  have C : Hid (∀ W, Cd W b (nrm s) → Calls Try.prog 21 #[.pointer (some ⟨b, 0, none⟩), .int .i64 n] W fun e w' => e = .returned (.int .i64 (usedE n)) ∧ Cd w' b (nrm (usedS s n)) ∧ Only [b] W w') := fun W h => usedP h hI n
  have R : Hid (∀ W, Rf W c s → Calls Try.prog 28 #[.pointer (some ⟨c, 0, none⟩), .int .i64 n] W fun e w' => e = .returned (.int .i64 (usedE n)) ∧ Rf w' c (usedS s n) ∧ Only [c] W w') := fun W h => rused h n
  have O := hidden (box3 h 3 n m)
  clear h hI
  generalize usedE n = x0 at C R
  generalize usedS s n = s2 at C R ⊢
  generalize nrm s2 = p2 at C ⊢
  generalize nrm s = p1 at C O
  have EC : Hid (∀ (args : Array Value) (w : World), (callFunc 21 args).run Try.prog w = .ok (.enter 21 args) w) := enters_of Try.func21 (by kernel_rfl) rfl
  have ER : Hid (∀ (args : Array Value) (w : World), (callFunc 28 args).run Try.prog w = .ok (.enter 28 args) w) := enters_of Try.func28 (by kernel_rfl) rfl
  go_enter Try.func10, Try.ntmps10
  obtain ⟨⟨c0, c1, c2⟩, hl⟩ := cells3 O.out
  go_upto_region 9 with fail
  refine Ord.wp_region_ex0 (X := Unit) (by kernel_rfl) 175 (fun x => [(some 63, .pointer (some ⟨b, 0, none⟩)), (some 64, .pointer (some ⟨w.heap.size, 1, none⟩)), (some 65, .int .i64 n), (some 66, .int .i64 x0), (some 67, .pointer (some ⟨c, 0, none⟩)), (some 68, .pointer (some ⟨w.heap.size, 1, none⟩)), (some 69, .int .i64 n), (some 70, .int .i64 x0), (some 71, .bool true), (some 6, .bool true)]) [some 63, some 64, some 65, some 66, some 67, some 68, some 69, some 70, some 71, some 6] rfl (fun listed hsz hr => Ord.all_listedC (rank := [0, 1, 2, 3, 4, 5, 6, 7, 8, 9]) (by kernel_rfl) hsz hr) (by rfl) (fun _ => rfl) (by kernel_rfl) (Rg.StM [3, 7] (fun k _ w' => (k = 0 → Own w0 w' (L3 b c w.heap.size p1 s 3 n m)) ∧ (k = 1 → Own w0 w' (L3 b c w.heap.size p2 s 3 n m)) ∧ (k = 2 → Own w0 w' (L3 b c w.heap.size p2 s2 3 n m)) ∧ w'.cell? ⟨w.heap.size, 1, none⟩ = some (.int .i64 n))) (fun _ _ _ _ hL h => h.ext (n := 10) (by decide) hL) ?_ ?_ () ?_
  case refine_1 =>
    intro x Lq iq oq ac w' ho hi hcl hdep hF hW
    have f1 : ac.tmps.size = 175 := hF.1
    match iq, ho, hi, hdep with
    | 0, ho, hi, hdep =>
      cases ho
      have da0 : ac.eval (.tmp 0) = .pointer (some ⟨b, 0, none⟩) := hF.old 0 rfl
      exact Ord.ex_value x rfl rfl (Rg.mv da0 rfl) rfl (hW.keep (by decide))
    | 1, ho, hi, hdep =>
      cases ho
      have da0 : ac.eval (.tmp 5) = .pointer (some ⟨w.heap.size, 0, none⟩) := hF.old 5 rfl
      exact Ord.ex_value x rfl rfl (Rg.fa da0 rfl (by simp [go_sem])) rfl (hW.keep (by decide))
    | 2, ho, hi, hdep =>
      cases ho
      have da0 : ac.eval (.tmp 64) = .pointer (some ⟨w.heap.size, 1, none⟩) := hF.2.2.2 1 64 _ rfl (hdep ⟨1, .data⟩ (by simp) rfl)
      obtain ⟨kq, hlo, hhi, hA⟩ := hW.range 0 0 (.inl rfl) (.inr ⟨3, rfl, (Rg.no_of (fun h => hcl 3 _ rfl (h) ⟨2, .data⟩ (by simp) rfl) hi)⟩)
      have c1 : w'.cell? ⟨w.heap.size, 1, none⟩ = some (.int .i64 n) := hA.2.2.2
      exact Ord.ex_value x rfl rfl (Rg.load da0 rfl (by simp [go_sem, c1])) rfl (hW.keep (by decide))
    | 3, ho, hi, hdep =>
      cases ho
      have da0 : ac.eval (.tmp 63) = .pointer (some ⟨b, 0, none⟩) := hF.2.2.2 0 63 _ rfl (hdep ⟨0, .data⟩ (by simp) rfl)
      have da1 : ac.eval (.tmp 65) = .int .i64 n := hF.2.2.2 2 65 _ rfl (hdep ⟨2, .data⟩ (by simp) rfl)
      have hA := hW.at (k := 0) rfl hi (.inl rfl)
      refine Rg.ex_call x rfl rfl (Rg.enter (args := #[.pointer (some ⟨b, 0, none⟩), .int .i64 n]) rfl rfl (by simp [da0, da1]) EC.out) (Calls.mono (C.out _ (has3b (hA.1 (by omega)))) ?_)
      rintro e w2 ⟨rfl, h1, h2⟩
      have h3 := turn3b (hA.1 (by omega)) h1 h2
      exact ⟨rfl, hW.next (k := 0) rfl (by decide) hi (.inl rfl) ⟨fun h => absurd h (by decide), fun _ => h3, fun h => absurd h (by decide), (cells3 h3).1.2.1⟩⟩
    | 4, ho, hi, hdep =>
      cases ho
      have da0 : ac.eval (.tmp 1) = .pointer (some ⟨c, 0, none⟩) := hF.old 1 rfl
      exact Ord.ex_value x rfl rfl (Rg.mv da0 rfl) rfl (hW.keep (by decide))
    | 5, ho, hi, hdep =>
      cases ho
      have da0 : ac.eval (.tmp 5) = .pointer (some ⟨w.heap.size, 0, none⟩) := hF.old 5 rfl
      exact Ord.ex_value x rfl rfl (Rg.fa da0 rfl (by simp [go_sem])) rfl (hW.keep (by decide))
    | 6, ho, hi, hdep =>
      cases ho
      have da0 : ac.eval (.tmp 68) = .pointer (some ⟨w.heap.size, 1, none⟩) := hF.2.2.2 5 68 _ rfl (hdep ⟨5, .data⟩ (by simp) rfl)
      obtain ⟨kq, hlo, hhi, hA⟩ := hW.range 0 1 (.inl rfl) (.inr ⟨7, rfl, (Rg.no_of (fun h => hcl 7 _ rfl (h) ⟨6, .data⟩ (by simp) rfl) hi)⟩)
      have c1 : w'.cell? ⟨w.heap.size, 1, none⟩ = some (.int .i64 n) := hA.2.2.2
      exact Ord.ex_value x rfl rfl (Rg.load da0 rfl (by simp [go_sem, c1])) rfl (hW.keep (by decide))
    | 7, ho, hi, hdep =>
      cases ho
      have da0 : ac.eval (.tmp 67) = .pointer (some ⟨c, 0, none⟩) := hF.2.2.2 4 67 _ rfl (hdep ⟨4, .data⟩ (by simp) rfl)
      have da1 : ac.eval (.tmp 69) = .int .i64 n := hF.2.2.2 6 69 _ rfl (hdep ⟨6, .data⟩ (by simp) rfl)
      have hA := hW.at (k := 1) rfl hi (.inr ⟨3, rfl, (hdep ⟨3, .chain⟩ (by simp) rfl)⟩)
      refine Rg.ex_call x rfl rfl (Rg.enter (args := #[.pointer (some ⟨c, 0, none⟩), .int .i64 n]) rfl rfl (by simp [da0, da1]) ER.out) (Calls.mono (R.out _ (has3c (hA.2.1 (by omega)))) ?_)
      rintro e w2 ⟨rfl, h1, h2⟩
      have h3 := turn3c (hA.2.1 (by omega)) h1 h2
      exact ⟨rfl, hW.next (k := 1) rfl (by decide) hi (.inr ⟨3, rfl, (hdep ⟨3, .chain⟩ (by simp) rfl)⟩) ⟨fun h => absurd h (by decide), fun h => absurd h (by decide), fun _ => h3, (cells3 h3).1.2.1⟩⟩
    | 8, ho, hi, hdep =>
      cases ho
      have da0 : ac.eval (.tmp 66) = .int .i64 x0 := hF.2.2.2 3 66 _ rfl (hdep ⟨3, .data⟩ (by simp) rfl)
      have da1 : ac.eval (.tmp 70) = .int .i64 x0 := hF.2.2.2 7 70 _ rfl (hdep ⟨7, .data⟩ (by simp) rfl)
      exact Ord.ex_value x rfl rfl (Rg.bin da0 da1 rfl (by simp [go_sem])) rfl (hW.keep (by decide))
    | 9, ho, hi, hdep =>
      cases ho
      have da0 : ac.eval (.tmp 71) = .bool true := hF.2.2.2 8 71 _ rfl (hdep ⟨8, .data⟩ (by simp) rfl)
      exact Ord.ex_value x rfl rfl (Rg.asg da0 rfl) rfl (hW.keep (by decide))
  case refine_2 =>
    intro x w' hW
    have O2 := hidden (hW.last.2.2.1 (by decide))
    clear hW
    simp only [Ord.puts, Ord.prs]
    go_simp
    go_wp2
    go_ret
    exact ⟨rfl, two O2.out⟩
  case refine_3 => exact Rg.StM.first ⟨fun _ => O.out.drew, fun h => absurd h (by decide), fun h => absurd h (by decide), (cells3 O.out.drew).1.2.1⟩
set_option maxRecDepth 20000 in
set_option maxHeartbeats 1000000 in
theorem act0 (h : Own w0 w (L2 b c (nrm s) s)) (kd n m : Int) (h1 : ¬ kd = 1) (h2 : ¬ kd = 2) (h3 : ¬ kd = 3) (h4 : ¬ kd = 4) (h5 : ¬ kd = 5) (h6 : ¬ kd = 6) (h7 : ¬ kd = 7) : Calls Try.prog 10 #[.pointer (some ⟨b, 0, none⟩), .pointer (some ⟨c, 0, none⟩), .agg #[.int .i64 kd, .int .i64 n, .int .u32 m]] w fun e w' => e = .returned (.bool true) ∧ Own w0 w' (L2 b c (nrm s) s) := by
  have O := hidden (box3 h kd n m)
  clear h
  generalize nrm s = p1 at O ⊢
  have k1 : (kd == 1) = false := beq_eq_false_iff_ne.2 h1
  have k2 : (kd == 2) = false := beq_eq_false_iff_ne.2 h2
  have k3 : (kd == 3) = false := beq_eq_false_iff_ne.2 h3
  have k4 : (kd == 4) = false := beq_eq_false_iff_ne.2 h4
  have k5 : (kd == 5) = false := beq_eq_false_iff_ne.2 h5
  have k6 : (kd == 6) = false := beq_eq_false_iff_ne.2 h6
  have k7 : (kd == 7) = false := beq_eq_false_iff_ne.2 h7
  go_enter Try.func10, Try.ntmps10
  obtain ⟨⟨c0, c1, c2⟩, hl⟩ := cells3 O.out
  go_wp2
  go_ret
  exact ⟨rfl, two O.out⟩
/-- what an act makes of a path -/
def actS (s : S) (kd n m : Int) : S := if kd = 1 then failS s else if kd = 2 then goodS s else if kd = 3 then usedS s n else if kd = 5 then beatS s n else if kd = 6 then hearS shutS s m n else if kd = 7 then missS shutS s else s
theorem Inv.act {s : S} (h : Inv s) (kd n m : Int) : Inv (actS s kd n m) := by
  have ht : tok n = true → 0 ≤ n ∧ n ≤ 1099511627776 := fun h => of_decide_eq_true h
  unfold actS usedS beatS hearS missS
  split
  · exact h.fail
  split
  · exact h.good
  split
  · cases hn : tok n
    · exact h
    · exact h.use (ht hn)
  split
  · cases hn : (tok n && !s.op)
    · exact h
    · have hn : tok n = true := by
        cases hx : tok n
        · rw [hx] at hn; cases hn
        · rfl
      exact (h.use (ht hn)).beg (ht hn)
  split
  · cases tok n && ansB s m n
    · exact h
    · exact h.shut.good
  split
  · cases s.op
    · exact h
    · exact h.shut.fail
  · exact h
theorem act (h : Own w0 w (L2 b c (nrm s) s)) (hI : Inv s) (kd n m : Int) : Calls Try.prog 10 #[.pointer (some ⟨b, 0, none⟩), .pointer (some ⟨c, 0, none⟩), .agg #[.int .i64 kd, .int .i64 n, .int .u32 m]] w fun e w' => e = .returned (.bool true) ∧ Own w0 w' (L2 b c (nrm (actS s kd n m)) (actS s kd n m)) := by
  unfold actS
  by_cases k1 : kd = 1
  · subst k1; exact act1 h hI n m
  by_cases k2 : kd = 2
  · subst k2; exact act2 h hI n m
  by_cases k3 : kd = 3
  · subst k3; exact act3 h hI n m
  by_cases k4 : kd = 4
  · subst k4; exact act4 h hI n m
  by_cases k5 : kd = 5
  · subst k5; exact act5 h hI n m
  by_cases k6 : kd = 6
  · subst k6; exact act6 h hI n m
  by_cases k7 : kd = 7
  · subst k7; exact act7 h hI n m
  rw [if_neg k1, if_neg k2, if_neg k3, if_neg k5, if_neg k6, if_neg k7]
  exact act0 h kd n m k1 k2 k3 k4 k5 k6 k7
set_option maxRecDepth 20000 in
set_option maxHeartbeats 2000000 in
theorem same (h : Own w0 w (L2 b c (nrm s) s)) (hI : Inv s) : Calls Try.prog 11 #[.pointer (some ⟨b, 0, none⟩), .pointer (some ⟨c, 0, none⟩)] w fun e w' => e = .returned (.bool true) ∧ Own w0 w' (L2 b c (nrm s) s) := by
  have hC : Cd w b (nrm s) := h.has (.head _)
  have hR : Rf w c s := h.has (.tail _ (.head _))
  have OP : Hid (Calls Try.prog 20 #[.pointer (some ⟨b, 0, none⟩)] w fun e w' => e = .returned (.tuple #[.int .u32 (bif s.op then s.nu else 0), .int .i64 (bif s.op then s.bg else 0), .bool s.op]) ∧ Below w.heap.size w w') := by
    have := openX hC hI.nrm
    rw [show (bif (nrm s).op then (nrm s).bg else 0) = (bif s.op then s.bg else 0) by unfold nrm; cases s.op <;> rfl] at this
    exact this
  have ST0 : Hid (∀ W, Below w.heap.size w W → Calls Try.prog 13 #[.pointer (some ⟨b, 0, none⟩)] W fun e w' => e = .returned (.int .i64 (stI s)) ∧ Below W.heap.size W w') := fun W hB => by
    have := stateX (hC.later hB) hI.nrm
    exact this
  have RS0 : Hid (∀ W, Below w.heap.size w W → Calls Try.prog 33 #[.pointer (some ⟨c, 0, none⟩)] W fun e w' => e = .returned (.int .i64 (stI s)) ∧ Below W.heap.size W w') := fun W hB => rstate (hR.later hB)
  have ER0 : Hid (∀ W, Below w.heap.size w W → Calls Try.prog 15 #[.pointer (some ⟨b, 0, none⟩)] W fun e w' => e = .returned (.int .i64 s.er) ∧ W = w') := fun W hB => by
    have := errorsX (hC.later hB) hI.nrm
    exact this
  have CE0 : Hid (∀ W, Below w.heap.size w W → W.cell? ⟨c, 3, none⟩ = some (.int .i64 s.er)) := fun W hB => Has.cell (hR.later hB) 3 rfl
  have CO : Hid (∀ W, Below w.heap.size w W → W.cell? ⟨c, 5, none⟩ = some (.bool s.op) ∧ W.cell? ⟨c, 6, none⟩ = some (.int .u32 s.nu) ∧ W.cell? ⟨c, 7, none⟩ = some (.int .i64 s.bg)) := fun W hB => ⟨Has.cell (hR.later hB) 5 rfl, Has.cell (hR.later hB) 6 rfl, Has.cell (hR.later hB) 7 rfl⟩
  have EST : Hid (∀ (args : Array Value) (w : World), (callFunc 13 args).run Try.prog w = .ok (.enter 13 args) w) := enters_of Try.func13 (by kernel_rfl) rfl
  have ERS : Hid (∀ (args : Array Value) (w : World), (callFunc 33 args).run Try.prog w = .ok (.enter 33 args) w) := enters_of Try.func33 (by kernel_rfl) rfl
  have EER : Hid (∀ (args : Array Value) (w : World), (callFunc 15 args).run Try.prog w = .ok (.enter 15 args) w) := enters_of Try.func15 (by kernel_rfl) rfl
  have FIN : Hid (∀ W, Below w.heap.size w W → Own w0 W (L2 b c (nrm s) s)) := fun W hB => h.later hB
  clear h hC hR hI
  generalize L2 b c (nrm s) s = LL at FIN ⊢
  generalize stI s = x1 at ST0 RS0
  generalize s.er = x2 at ER0 CE0
  generalize s.nu = nu at OP CO
  generalize s.bg = bg at OP CO
  generalize s.op = op at OP CO
  cases op
  · simp only [cond_false] at OP
    go_enter Try.func11, Try.ntmps11
    go_wp2_with fail
    refine Calls.mono OP.out ?_
    rintro e w1 ⟨rfl, hB⟩
    have HB := hidden hB
    have ST : Hid (∀ W, Below w1.heap.size w1 W → Calls Try.prog 13 #[.pointer (some ⟨b, 0, none⟩)] W fun e w' => e = .returned (.int .i64 x1) ∧ Below W.heap.size W w') := fun W h => ST0.out W (HB.out.trans (h.mono HB.out.size))
    have RS : Hid (∀ W, Below w1.heap.size w1 W → Calls Try.prog 33 #[.pointer (some ⟨c, 0, none⟩)] W fun e w' => e = .returned (.int .i64 x1) ∧ Below W.heap.size W w') := fun W h => RS0.out W (HB.out.trans (h.mono HB.out.size))
    have ER : Hid (∀ W, Below w1.heap.size w1 W → Calls Try.prog 15 #[.pointer (some ⟨b, 0, none⟩)] W fun e w' => e = .returned (.int .i64 x2) ∧ W = w') := fun W h => ER0.out W (HB.out.trans (h.mono HB.out.size))
    have CE : Hid (∀ W, Below w1.heap.size w1 W → W.cell? ⟨c, 3, none⟩ = some (.int .i64 x2)) := fun W h => CE0.out W (HB.out.trans (h.mono HB.out.size))
    obtain ⟨c5, c6, c7⟩ := CO.out _ hB
    clear hB
    go_upto_region 4 with fail
    refine Ord.wp_region_ex0 (X := Unit) (by kernel_rfl) 65 (fun x => [(some 51, .pointer (some ⟨b, 0, none⟩)), (some 52, .int .i64 x1), (some 53, .pointer (some ⟨c, 0, none⟩)), (some 54, .int .i64 x1), (some 55, .bool true), (some 56, .bool true), (some 57, .pointer (some ⟨b, 0, none⟩)), (some 58, .int .i64 x2), (some 59, .pointer (some ⟨c, 0, none⟩)), (some 60, .pointer (some ⟨c, 0, none⟩)), (some 61, .pointer (some ⟨c, 3, none⟩)), (some 62, .int .i64 x2), (some 63, .bool true), (some 64, .bool true), (some 4, .bool true)]) [some 51, some 52, some 53, some 54, some 55, some 56, some 57, some 58, some 59, some 60, some 61, some 62, some 63, some 64, some 4] rfl (fun listed hsz hr => Ord.all_listedC (rank := [0, 1, 2, 3, 4, 5, 6, 7, 8, 9, 10, 11, 12, 13, 14]) (by kernel_rfl) hsz hr) (by rfl) (fun _ => rfl) (by kernel_rfl) (Rg.StM [1, 3, 7] (fun _ _ w' => Below w1.heap.size w1 w')) (fun _ _ _ _ hL h => h.ext (n := 15) (by decide) hL) ?_ ?_ () ?_
    case refine_1 =>
      intro x Lq iq oq ac w' ho hi hcl hdep hF hW
      have f1 : ac.tmps.size = 65 := hF.1
      match iq, ho, hi, hdep with
      | 0, ho, hi, hdep =>
        cases ho
        have da0 : ac.eval (.tmp 0) = .pointer (some ⟨b, 0, none⟩) := hF.old 0 rfl
        exact Ord.ex_value x rfl rfl (Rg.mv da0 rfl) rfl (hW.keep (by decide))
      | 1, ho, hi, hdep =>
        cases ho
        have da0 : ac.eval (.tmp 51) = .pointer (some ⟨b, 0, none⟩) := hF.2.2.2 0 51 _ rfl (hdep ⟨0, .data⟩ (by simp) rfl)
        have hA := hW.at (k := 0) rfl hi (.inl rfl)
        refine Rg.ex_call x rfl rfl (Rg.enter (args := #[.pointer (some ⟨b, 0, none⟩)]) rfl rfl (by simp [da0]) EST.out) (Calls.mono (ST.out _ hA) ?_)
        rintro e w2 ⟨rfl, hB⟩
        exact ⟨rfl, hW.next (k := 0) rfl (by decide) hi (.inl rfl) (hA.trans (hB.mono hA.size))⟩
      | 2, ho, hi, hdep =>
        cases ho
        have da0 : ac.eval (.tmp 1) = .pointer (some ⟨c, 0, none⟩) := hF.old 1 rfl
        exact Ord.ex_value x rfl rfl (Rg.mv da0 rfl) rfl (hW.keep (by decide))
      | 3, ho, hi, hdep =>
        cases ho
        have da0 : ac.eval (.tmp 53) = .pointer (some ⟨c, 0, none⟩) := hF.2.2.2 2 53 _ rfl (hdep ⟨2, .data⟩ (by simp) rfl)
        have hA := hW.at (k := 1) rfl hi (.inr ⟨1, rfl, (hdep ⟨1, .chain⟩ (by simp) rfl)⟩)
        refine Rg.ex_call x rfl rfl (Rg.enter (args := #[.pointer (some ⟨c, 0, none⟩)]) rfl rfl (by simp [da0]) ERS.out) (Calls.mono (RS.out _ hA) ?_)
        rintro e w2 ⟨rfl, hB⟩
        exact ⟨rfl, hW.next (k := 1) rfl (by decide) hi (.inr ⟨1, rfl, (hdep ⟨1, .chain⟩ (by simp) rfl)⟩) (hA.trans (hB.mono hA.size))⟩
      | 4, ho, hi, hdep =>
        cases ho
        have da0 : ac.eval (.tmp 52) = .int .i64 x1 := hF.2.2.2 1 52 _ rfl (hdep ⟨1, .data⟩ (by simp) rfl)
        have da1 : ac.eval (.tmp 54) = .int .i64 x1 := hF.2.2.2 3 54 _ rfl (hdep ⟨3, .data⟩ (by simp) rfl)
        exact Ord.ex_value x rfl rfl (Rg.bin da0 da1 rfl (by simp [go_sem])) rfl (hW.keep (by decide))
      | 5, ho, hi, hdep =>
        cases ho
        have da0 : ac.eval (.tmp 55) = .bool true := hF.2.2.2 4 55 _ rfl (hdep ⟨4, .data⟩ (by simp) rfl)
        exact Ord.ex_value x rfl rfl (Rg.mv da0 rfl) rfl (hW.keep (by decide))
      | 6, ho, hi, hdep =>
        cases ho
        have dg : ac.eval (.tmp 56) = .bool true := hF.2.2.2 5 56 _ rfl (hdep ⟨5, .guard⟩ (by simp) rfl)
        have da0 : ac.eval (.tmp 0) = .pointer (some ⟨b, 0, none⟩) := hF.old 0 rfl
        exact Ord.ex_value x rfl (Ord.wanted_of dg (by rw [f1]; decide) rfl rfl) (Rg.mv da0 rfl) rfl (hW.keep (by decide))
      | 7, ho, hi, hdep =>
        cases ho
        have dg : ac.eval (.tmp 56) = .bool true := hF.2.2.2 5 56 _ rfl (hdep ⟨5, .guard⟩ (by simp) rfl)
        have da0 : ac.eval (.tmp 57) = .pointer (some ⟨b, 0, none⟩) := hF.2.2.2 6 57 _ rfl (hdep ⟨6, .data⟩ (by simp) rfl)
        have hA := hW.at (k := 2) rfl hi (.inr ⟨3, rfl, (hcl 5 _ rfl (hdep ⟨5, .chain⟩ (by simp) rfl) ⟨3, .chain⟩ (by simp) rfl)⟩)
        refine Rg.ex_call x rfl (Ord.wanted_of dg (by rw [f1]; decide) rfl rfl) (Rg.enter (args := #[.pointer (some ⟨b, 0, none⟩)]) rfl rfl (by simp [da0]) EER.out) (Calls.mono (ER.out _ hA) ?_)
        rintro e w2 ⟨rfl, hB⟩
        exact ⟨rfl, hW.next (k := 2) rfl (by decide) hi (.inr ⟨3, rfl, (hcl 5 _ rfl (hdep ⟨5, .chain⟩ (by simp) rfl) ⟨3, .chain⟩ (by simp) rfl)⟩) (hB ▸ hA)⟩
      | 8, ho, hi, hdep =>
        cases ho
        have dg : ac.eval (.tmp 56) = .bool true := hF.2.2.2 5 56 _ rfl (hdep ⟨5, .guard⟩ (by simp) rfl)
        have da0 : ac.eval (.tmp 1) = .pointer (some ⟨c, 0, none⟩) := hF.old 1 rfl
        exact Ord.ex_value x rfl (Ord.wanted_of dg (by rw [f1]; decide) rfl rfl) (Rg.mv da0 rfl) rfl (hW.keep (by decide))
      | 9, ho, hi, hdep =>
        cases ho
        have dg : ac.eval (.tmp 56) = .bool true := hF.2.2.2 5 56 _ rfl (hdep ⟨5, .guard⟩ (by simp) rfl)
        have da0 : ac.eval (.tmp 59) = .pointer (some ⟨c, 0, none⟩) := hF.2.2.2 8 59 _ rfl (hdep ⟨8, .data⟩ (by simp) rfl)
        exact Ord.ex_value x rfl (Ord.wanted_of dg (by rw [f1]; decide) rfl rfl) (Rg.nilc da0 rfl) rfl (hW.keep (by decide))
      | 10, ho, hi, hdep =>
        cases ho
        have dg : ac.eval (.tmp 56) = .bool true := hF.2.2.2 5 56 _ rfl (hdep ⟨5, .guard⟩ (by simp) rfl)
        have da0 : ac.eval (.tmp 60) = .pointer (some ⟨c, 0, none⟩) := hF.2.2.2 9 60 _ rfl (hdep ⟨9, .data⟩ (by simp) rfl)
        exact Ord.ex_value x rfl (Ord.wanted_of dg (by rw [f1]; decide) rfl rfl) (Rg.fa da0 rfl (by simp [go_sem])) rfl (hW.keep (by decide))
      | 11, ho, hi, hdep =>
        cases ho
        have dg : ac.eval (.tmp 56) = .bool true := hF.2.2.2 5 56 _ rfl (hdep ⟨5, .guard⟩ (by simp) rfl)
        have da0 : ac.eval (.tmp 61) = .pointer (some ⟨c, 3, none⟩) := hF.2.2.2 10 61 _ rfl (hdep ⟨10, .data⟩ (by simp) rfl)
        obtain ⟨kq, hlo, hhi, hA⟩ := hW.range 2 3 (.inr ⟨3, rfl, (hcl 5 _ rfl (hdep ⟨5, .guard⟩ (by simp) rfl) ⟨3, .chain⟩ (by simp) rfl)⟩) (.inl rfl)
        have c3 := CE.out _ hA
        exact Ord.ex_value x rfl (Ord.wanted_of dg (by rw [f1]; decide) rfl rfl) (Rg.load da0 rfl (by simp [go_sem, c3])) rfl (hW.keep (by decide))
      | 12, ho, hi, hdep =>
        cases ho
        have dg : ac.eval (.tmp 56) = .bool true := hF.2.2.2 5 56 _ rfl (hdep ⟨5, .guard⟩ (by simp) rfl)
        have da0 : ac.eval (.tmp 58) = .int .i64 x2 := hF.2.2.2 7 58 _ rfl (hdep ⟨7, .data⟩ (by simp) rfl)
        have da1 : ac.eval (.tmp 62) = .int .i64 x2 := hF.2.2.2 11 62 _ rfl (hdep ⟨11, .data⟩ (by simp) rfl)
        exact Ord.ex_value x rfl (Ord.wanted_of dg (by rw [f1]; decide) rfl rfl) (Rg.bin da0 da1 rfl (by simp [go_sem])) rfl (hW.keep (by decide))
      | 13, ho, hi, hdep =>
        cases ho
        have da0 : ac.eval (.tmp 56) = .bool true := hF.2.2.2 5 56 _ rfl (hdep ⟨5, .data⟩ (by simp) rfl)
        have da1 : ac.eval (.tmp 63) = .bool true := hF.2.2.2 12 63 _ rfl (hdep ⟨12, .data⟩ (by simp) rfl)
        exact Ord.ex_value x rfl rfl (Rg.pick_t da0 da1 rfl) rfl (hW.keep (by decide))
      | 14, ho, hi, hdep =>
        cases ho
        have da0 : ac.eval (.tmp 64) = .bool true := hF.2.2.2 13 64 _ rfl (hdep ⟨13, .data⟩ (by simp) rfl)
        exact Ord.ex_value x rfl rfl (Rg.asg da0 rfl) rfl (hW.keep (by decide))
    case refine_2 =>
      intro x w' hW
      have H2 := hidden hW.last
      clear hW
      simp only [Ord.puts, Ord.prs]
      go_simp
      go_wp2
      go_ret
      exact ⟨rfl, FIN.out _ (HB.out.trans (H2.out.mono HB.out.size))⟩
    case refine_3 => exact Rg.StM.first (Below.refl _ _).drew
  · simp only [cond_true] at OP
    go_enter Try.func11, Try.ntmps11
    go_wp2_with fail
    refine Calls.mono OP.out ?_
    rintro e w1 ⟨rfl, hB⟩
    have HB := hidden hB
    have ST : Hid (∀ W, Below w1.heap.size w1 W → Calls Try.prog 13 #[.pointer (some ⟨b, 0, none⟩)] W fun e w' => e = .returned (.int .i64 x1) ∧ Below W.heap.size W w') := fun W h => ST0.out W (HB.out.trans (h.mono HB.out.size))
    have RS : Hid (∀ W, Below w1.heap.size w1 W → Calls Try.prog 33 #[.pointer (some ⟨c, 0, none⟩)] W fun e w' => e = .returned (.int .i64 x1) ∧ Below W.heap.size W w') := fun W h => RS0.out W (HB.out.trans (h.mono HB.out.size))
    have ER : Hid (∀ W, Below w1.heap.size w1 W → Calls Try.prog 15 #[.pointer (some ⟨b, 0, none⟩)] W fun e w' => e = .returned (.int .i64 x2) ∧ W = w') := fun W h => ER0.out W (HB.out.trans (h.mono HB.out.size))
    have CE : Hid (∀ W, Below w1.heap.size w1 W → W.cell? ⟨c, 3, none⟩ = some (.int .i64 x2)) := fun W h => CE0.out W (HB.out.trans (h.mono HB.out.size))
    obtain ⟨c5, c6, c7⟩ := CO.out _ hB
    clear hB
    go_upto_region 4 with fail
    refine Ord.wp_region_ex0 (X := Unit) (by kernel_rfl) 65 (fun x => [(some 51, .pointer (some ⟨b, 0, none⟩)), (some 52, .int .i64 x1), (some 53, .pointer (some ⟨c, 0, none⟩)), (some 54, .int .i64 x1), (some 55, .bool true), (some 56, .bool true), (some 57, .pointer (some ⟨b, 0, none⟩)), (some 58, .int .i64 x2), (some 59, .pointer (some ⟨c, 0, none⟩)), (some 60, .pointer (some ⟨c, 0, none⟩)), (some 61, .pointer (some ⟨c, 3, none⟩)), (some 62, .int .i64 x2), (some 63, .bool true), (some 64, .bool true), (some 4, .bool true)]) [some 51, some 52, some 53, some 54, some 55, some 56, some 57, some 58, some 59, some 60, some 61, some 62, some 63, some 64, some 4] rfl (fun listed hsz hr => Ord.all_listedC (rank := [0, 1, 2, 3, 4, 5, 6, 7, 8, 9, 10, 11, 12, 13, 14]) (by kernel_rfl) hsz hr) (by rfl) (fun _ => rfl) (by kernel_rfl) (Rg.StM [1, 3, 7] (fun _ _ w' => Below w1.heap.size w1 w')) (fun _ _ _ _ hL h => h.ext (n := 15) (by decide) hL) ?_ ?_ () ?_
    case refine_1 =>
      intro x Lq iq oq ac w' ho hi hcl hdep hF hW
      have f1 : ac.tmps.size = 65 := hF.1
      match iq, ho, hi, hdep with
      | 0, ho, hi, hdep =>
        cases ho
        have da0 : ac.eval (.tmp 0) = .pointer (some ⟨b, 0, none⟩) := hF.old 0 rfl
        exact Ord.ex_value x rfl rfl (Rg.mv da0 rfl) rfl (hW.keep (by decide))
      | 1, ho, hi, hdep =>
        cases ho
        have da0 : ac.eval (.tmp 51) = .pointer (some ⟨b, 0, none⟩) := hF.2.2.2 0 51 _ rfl (hdep ⟨0, .data⟩ (by simp) rfl)
        have hA := hW.at (k := 0) rfl hi (.inl rfl)
        refine Rg.ex_call x rfl rfl (Rg.enter (args := #[.pointer (some ⟨b, 0, none⟩)]) rfl rfl (by simp [da0]) EST.out) (Calls.mono (ST.out _ hA) ?_)
        rintro e w2 ⟨rfl, hB⟩
        exact ⟨rfl, hW.next (k := 0) rfl (by decide) hi (.inl rfl) (hA.trans (hB.mono hA.size))⟩
      | 2, ho, hi, hdep =>
        cases ho
        have da0 : ac.eval (.tmp 1) = .pointer (some ⟨c, 0, none⟩) := hF.old 1 rfl
        exact Ord.ex_value x rfl rfl (Rg.mv da0 rfl) rfl (hW.keep (by decide))
      | 3, ho, hi, hdep =>
        cases ho
        have da0 : ac.eval (.tmp 53) = .pointer (some ⟨c, 0, none⟩) := hF.2.2.2 2 53 _ rfl (hdep ⟨2, .data⟩ (by simp) rfl)
        have hA := hW.at (k := 1) rfl hi (.inr ⟨1, rfl, (hdep ⟨1, .chain⟩ (by simp) rfl)⟩)
        refine Rg.ex_call x rfl rfl (Rg.enter (args := #[.pointer (some ⟨c, 0, none⟩)]) rfl rfl (by simp [da0]) ERS.out) (Calls.mono (RS.out _ hA) ?_)
        rintro e w2 ⟨rfl, hB⟩
        exact ⟨rfl, hW.next (k := 1) rfl (by decide) hi (.inr ⟨1, rfl, (hdep ⟨1, .chain⟩ (by simp) rfl)⟩) (hA.trans (hB.mono hA.size))⟩
      | 4, ho, hi, hdep =>
        cases ho
        have da0 : ac.eval (.tmp 52) = .int .i64 x1 := hF.2.2.2 1 52 _ rfl (hdep ⟨1, .data⟩ (by simp) rfl)
        have da1 : ac.eval (.tmp 54) = .int .i64 x1 := hF.2.2.2 3 54 _ rfl (hdep ⟨3, .data⟩ (by simp) rfl)
        exact Ord.ex_value x rfl rfl (Rg.bin da0 da1 rfl (by simp [go_sem])) rfl (hW.keep (by decide))
      | 5, ho, hi, hdep =>
        cases ho
        have da0 : ac.eval (.tmp 55) = .bool true := hF.2.2.2 4 55 _ rfl (hdep ⟨4, .data⟩ (by simp) rfl)
        exact Ord.ex_value x rfl rfl (Rg.mv da0 rfl) rfl (hW.keep (by decide))
      | 6, ho, hi, hdep =>
        cases ho
        have dg : ac.eval (.tmp 56) = .bool true := hF.2.2.2 5 56 _ rfl (hdep ⟨5, .guard⟩ (by simp) rfl)
        have da0 : ac.eval (.tmp 0) = .pointer (some ⟨b, 0, none⟩) := hF.old 0 rfl
        exact Ord.ex_value x rfl (Ord.wanted_of dg (by rw [f1]; decide) rfl rfl) (Rg.mv da0 rfl) rfl (hW.keep (by decide))
      | 7, ho, hi, hdep =>
        cases ho
        have dg : ac.eval (.tmp 56) = .bool true := hF.2.2.2 5 56 _ rfl (hdep ⟨5, .guard⟩ (by simp) rfl)
        have da0 : ac.eval (.tmp 57) = .pointer (some ⟨b, 0, none⟩) := hF.2.2.2 6 57 _ rfl (hdep ⟨6, .data⟩ (by simp) rfl)
        have hA := hW.at (k := 2) rfl hi (.inr ⟨3, rfl, (hcl 5 _ rfl (hdep ⟨5, .chain⟩ (by simp) rfl) ⟨3, .chain⟩ (by simp) rfl)⟩)
        refine Rg.ex_call x rfl (Ord.wanted_of dg (by rw [f1]; decide) rfl rfl) (Rg.enter (args := #[.pointer (some ⟨b, 0, none⟩)]) rfl rfl (by simp [da0]) EER.out) (Calls.mono (ER.out _ hA) ?_)
        rintro e w2 ⟨rfl, hB⟩
        exact ⟨rfl, hW.next (k := 2) rfl (by decide) hi (.inr ⟨3, rfl, (hcl 5 _ rfl (hdep ⟨5, .chain⟩ (by simp) rfl) ⟨3, .chain⟩ (by simp) rfl)⟩) (hB ▸ hA)⟩
      | 8, ho, hi, hdep =>
        cases ho
        have dg : ac.eval (.tmp 56) = .bool true := hF.2.2.2 5 56 _ rfl (hdep ⟨5, .guard⟩ (by simp) rfl)
        have da0 : ac.eval (.tmp 1) = .pointer (some ⟨c, 0, none⟩) := hF.old 1 rfl
        exact Ord.ex_value x rfl (Ord.wanted_of dg (by rw [f1]; decide) rfl rfl) (Rg.mv da0 rfl) rfl (hW.keep (by decide))
      | 9, ho, hi, hdep =>
        cases ho
        have dg : ac.eval (.tmp 56) = .bool true := hF.2.2.2 5 56 _ rfl (hdep ⟨5, .guard⟩ (by simp) rfl)
        have da0 : ac.eval (.tmp 59) = .pointer (some ⟨c, 0, none⟩) := hF.2.2.2 8 59 _ rfl (hdep ⟨8, .data⟩ (by simp) rfl)
        exact Ord.ex_value x rfl (Ord.wanted_of dg (by rw [f1]; decide) rfl rfl) (Rg.nilc da0 rfl) rfl (hW.keep (by decide))
      | 10, ho, hi, hdep =>
        cases ho
        have dg : ac.eval (.tmp 56) = .bool true := hF.2.2.2 5 56 _ rfl (hdep ⟨5, .guard⟩ (by simp) rfl)
        have da0 : ac.eval (.tmp 60) = .pointer (some ⟨c, 0, none⟩) := hF.2.2.2 9 60 _ rfl (hdep ⟨9, .data⟩ (by simp) rfl)
        exact Ord.ex_value x rfl (Ord.wanted_of dg (by rw [f1]; decide) rfl rfl) (Rg.fa da0 rfl (by simp [go_sem])) rfl (hW.keep (by decide))
      | 11, ho, hi, hdep =>
        cases ho
        have dg : ac.eval (.tmp 56) = .bool true := hF.2.2.2 5 56 _ rfl (hdep ⟨5, .guard⟩ (by simp) rfl)
        have da0 : ac.eval (.tmp 61) = .pointer (some ⟨c, 3, none⟩) := hF.2.2.2 10 61 _ rfl (hdep ⟨10, .data⟩ (by simp) rfl)
        obtain ⟨kq, hlo, hhi, hA⟩ := hW.range 2 3 (.inr ⟨3, rfl, (hcl 5 _ rfl (hdep ⟨5, .guard⟩ (by simp) rfl) ⟨3, .chain⟩ (by simp) rfl)⟩) (.inl rfl)
        have c3 := CE.out _ hA
        exact Ord.ex_value x rfl (Ord.wanted_of dg (by rw [f1]; decide) rfl rfl) (Rg.load da0 rfl (by simp [go_sem, c3])) rfl (hW.keep (by decide))
      | 12, ho, hi, hdep =>
        cases ho
        have dg : ac.eval (.tmp 56) = .bool true := hF.2.2.2 5 56 _ rfl (hdep ⟨5, .guard⟩ (by simp) rfl)
        have da0 : ac.eval (.tmp 58) = .int .i64 x2 := hF.2.2.2 7 58 _ rfl (hdep ⟨7, .data⟩ (by simp) rfl)
        have da1 : ac.eval (.tmp 62) = .int .i64 x2 := hF.2.2.2 11 62 _ rfl (hdep ⟨11, .data⟩ (by simp) rfl)
        exact Ord.ex_value x rfl (Ord.wanted_of dg (by rw [f1]; decide) rfl rfl) (Rg.bin da0 da1 rfl (by simp [go_sem])) rfl (hW.keep (by decide))
      | 13, ho, hi, hdep =>
        cases ho
        have da0 : ac.eval (.tmp 56) = .bool true := hF.2.2.2 5 56 _ rfl (hdep ⟨5, .data⟩ (by simp) rfl)
        have da1 : ac.eval (.tmp 63) = .bool true := hF.2.2.2 12 63 _ rfl (hdep ⟨12, .data⟩ (by simp) rfl)
        exact Ord.ex_value x rfl rfl (Rg.pick_t da0 da1 rfl) rfl (hW.keep (by decide))
      | 14, ho, hi, hdep =>
        cases ho
        have da0 : ac.eval (.tmp 64) = .bool true := hF.2.2.2 13 64 _ rfl (hdep ⟨13, .data⟩ (by simp) rfl)
        exact Ord.ex_value x rfl rfl (Rg.asg da0 rfl) rfl (hW.keep (by decide))
    case refine_2 =>
      intro x w' hW
      have H2 := hidden hW.last
      clear hW
      simp only [Ord.puts, Ord.prs]
      go_simp
      go_wp2
      go_ret
      exact ⟨rfl, FIN.out _ (HB.out.trans (H2.out.mono HB.out.size))⟩
    case refine_3 => exact Rg.StM.first (Below.refl _ _).drew
end
end Go.Proofs.Ytfofcaedblhegaa.Pa
