/-
  The first fault is caught: the function caught of package frag, with each function that is handed to it.
  Conditions: as at each lemma.
-/
import Derived.Test.YteomkmbaoaahoaaFrC
import Derived.Defers
import Derived.Recover
namespace Go.Proofs.Yteomkmbaoaahoaa.Fr
open Go.ChangeShapes Go.WideShapes Go.ChangeAt Go.RowKit
open Ba (hidden Has Only cell_lt heap_lt)
open Ow (Own)
set_option linter.unusedVariables false
set_option maxRecDepth 20000

theorem catch_panicking (p q : Nat) (x y : Int) (f g : Int) (older : List PanicEntry) (w : World) (hc : w.cell? ⟨p, 0, none⟩ = some (.int .i64 x)) (hz : w.frozen? ⟨p, 0, none⟩ = false) (hd : w.cell? ⟨q, 0, none⟩ = some (.int .i64 y)) (hy : w.frozen? ⟨q, 0, none⟩ = false) (hne : p ≠ q) :
    CallsD Try.prog 26 #[.pointer (some ⟨p, 0, none⟩), .pointer (some ⟨q, 0, none⟩)] (.panicking ({ v := .iface 58 (.agg #[.int .i64 f, .int .i64 g]), recovered := false } :: older)) w fun e u' w' =>
      e = .returned (.tuple #[]) ∧ u' = .panicking ({ v := .iface 58 (.agg #[.int .i64 f, .int .i64 g]), recovered := true } :: older) ∧ w' = (((w.setCell ⟨p, 0, none⟩ (.int .i64 g)).setCell ⟨q, 0, none⟩ (.int .i64 f)).alloc (.cells #[.int .i64 f, .int .i64 g] 58)).drew := by
  have hta : ∀ w : World, (Instr.typeAssert (.iface 58 (.agg #[.int .i64 f, .int .i64 g])) 20 58 false).run Try.prog w = .ok (.agg #[.int .i64 f, .int .i64 g]) w := fun w => by rfl
  refine callsD_of_wpS Try.func26 rfl fun c₀ cs hu => ?_
  apply wpS_seq
  apply wpS_region
  simp [wpOpsS, go_sem, recoverD, hu, Try.ntmps26, Exit.thenS]
  refine wpS_of_wp ?_
  have l1 : p < w.heap.size := cell_lt hc
  have l2 : q < w.heap.size := cell_lt hd
  go_wp2
  go_region
  all_goals go_wp2
  all_goals simp [bodyPostS, results, Try.results26]
theorem catch_idle (p q : Nat) (w : World) :
    CallsD Try.prog 26 #[.pointer (some ⟨p, 0, none⟩), .pointer (some ⟨q, 0, none⟩)] .returning w fun e u' w' => e = .returned (.tuple #[]) ∧ u' = .returning ∧ w' = w := by
  refine callsD_of_wpS Try.func26 rfl fun c₀ cs hu => ?_
  apply wpS_seq
  apply wpS_region
  simp [wpOpsS, go_sem, recoverD, hu, Try.ntmps26, Exit.thenS]
  refine wpS_of_wp ?_
  go_wp2
  cases c₀
  simp_all [bodyPostS, results, Try.results26]
theorem res_caught {w : World} {q r : Nat} {x y : Int} {tmps : Array Value} (h1 : tmps.getD 2 undef = .pointer (some ⟨q, 0, none⟩)) (h2 : tmps.getD 3 undef = .pointer (some ⟨r, 0, none⟩))
    (hq : w.cell? ⟨q, 0, none⟩ = some (.int .i64 x)) (hr : w.cell? ⟨r, 0, none⟩ = some (.int .i64 y)) : (results Try.f21 tmps).run Try.prog w = .ok (.tuple #[.int .i64 x, .int .i64 y]) w := by
  have h1' : tmps[2]?.getD undef = .pointer (some ⟨q, 0, none⟩) := by simpa using h1
  have h2' : tmps[3]?.getD undef = .pointer (some ⟨r, 0, none⟩) := by simpa using h2
  simp [results, Try.results21, h1', h2', asAddr]
  simp [go_sem, hq, hr]
/-- what caught leaves -/
def CauO (w : World) (G : World → World → Prop) (T : World → World → Int → Int → Prop) (e : Ending) (w' : World) : Prop :=
  ∃ (x x' : World) (q er : Int), e = .returned (.tuple #[.int .i64 q, .int .i64 er]) ∧ x.heap.size = w.heap.size + 2 ∧ Below w.heap.size w x ∧ Only [w.heap.size, w.heap.size + 1] x' w' ∧ ((q = 0 ∧ er = 0 ∧ G x x') ∨ T x x' er q)
/-- what is handed to caught leaves its two numbers alone -/
def Off (n : Nat) (x x' : World) : Prop := x.heap.size ≤ x'.heap.size ∧ x'.heap[n]? = x.heap[n]? ∧ x'.heap[n + 1]? = x.heap[n + 1]?
set_option maxHeartbeats 1000000 in
theorem caught_J (w : World) (p0 p1 : Nat) (G : World → World → Prop) (T : World → World → Int → Int → Prop)
    (C : ∀ x : World, x.heap.size = w.heap.size + 2 → Below w.heap.size w x → Calls Try.prog 22 #[.pointer (some ⟨p0, 0, none⟩), .pointer (some ⟨p1, 0, none⟩)] x fun e x' => Off w.heap.size x x' ∧ ((e = .returned (.tuple #[]) ∧ G x x') ∨ ∃ er q : Int, e = thrown er q ∧ T x x' er q)) :
    Calls Try.prog 21 #[.func (.func 22) #[] #[.pointer (some ⟨p0, 0, none⟩), .pointer (some ⟨p1, 0, none⟩)]] w fun e w' => CauO w G T e w' := by
  have hmf : ∀ (fn : Fn) (first cap : Array Value) (w : World), (Instr.makeFunc fn first cap).run Try.prog w = .ok (.func fn first cap) w := fun _ _ _ _ => rfl
  have O := (((Own.refl w).alloc #[.int .i64 0] 3).alloc #[.int .i64 0] 24)
  have hs0 : ((w.alloc (.cells #[.int .i64 0] 3)).alloc (.cells #[.int .i64 0] 24)).heap.size = w.heap.size + 2 := by simp
  have hp1 := O.has (b := w.heap.size) (.tail _ (.head _))
  have hp2 := O.has (b := (w.alloc (.cells #[.int .i64 0] 3)).heap.size) (.head _)
  rw [World.size_alloc] at hp2
  have CC := hidden (C _ hs0 O.below)
  have HB0 := hidden O.below
  have HP1 := hidden hp1
  have HP2 := hidden hp2
  have hs0' := hs0
  clear C O hp1 hp2
  go_enter_defers Try.func21, Try.ntmps21
  go_wp2_with fail
  generalize hW : World.alloc (World.alloc w _) _ = W at *
  clear hW
  refine Calls.mono CC.out ?_
  rintro e w1 ⟨⟨hsz, e1, e2⟩, ⟨rfl, hG⟩ | ⟨er, q, rfl, hT⟩⟩
  · have h1 : Has w1 w.heap.size #[.int .i64 0] 3 := e1.trans HP1.out
    have h2 : Has w1 (w.heap.size + 1) #[.int .i64 0] 24 := e2.trans HP2.out
    have x1 := h1.cell 0 rfl
    have x2 := h2.cell 0 rfl
    have y1 := h1.frozen 0
    have y2 := h2.frozen 0
    have g1 := (h1.set 0 (.int .i64 0)).set_other (p := ⟨w.heap.size + 1, 0, none⟩) (by simp) (.int .i64 0)
    have g2 := (h2.set_other (p := ⟨w.heap.size, 0, none⟩) (by simp) (.int .i64 0)).set 0 (.int .i64 0)
    have HX1 := hidden (g1.cell 0 rfl)
    have HX2 := hidden (g2.cell 0 rfl)
    have HF := hidden (show CauO w G T (.returned (.tuple #[.int .i64 0, .int .i64 0])) ((w1.setCell ⟨w.heap.size, 0, none⟩ (.int .i64 0)).setCell ⟨w.heap.size + 1, 0, none⟩ (.int .i64 0)) from
      ⟨W, w1, 0, 0, rfl, hs0, HB0.out, (Only.setCell (F := [w.heap.size, w.heap.size + 1]) w1 (p := ⟨w.heap.size, 0, none⟩) (by simp) _).then (Only.setCell _ (p := ⟨w.heap.size + 1, 0, none⟩) (by simp) _), .inl ⟨rfl, rfl, hG⟩⟩)
    clear h1 h2 g1 g2 e1 e2 hG
    go_wp2
    refine leaves_cons (f := 26) (args := #[.pointer (some ⟨w.heap.size, 0, none⟩), .pointer (some ⟨w.heap.size + 1, 0, none⟩)]) (by simp) (by simp [go_sem]) ?_
    refine (catch_idle w.heap.size (w.heap.size + 1) _).mono ?_
    rintro e u' w3 ⟨rfl, rfl, rfl⟩
    exact ⟨.tuple #[.int .i64 0, .int .i64 0], by simpa using res_caught rfl rfl HX1.out HX2.out, HF.out⟩
  · have h1 : Has w1 w.heap.size #[.int .i64 0] 3 := e1.trans HP1.out
    have h2 : Has w1 (w.heap.size + 1) #[.int .i64 0] 24 := e2.trans HP2.out
    have x1 := h1.cell 0 rfl
    have x2 := h2.cell 0 rfl
    have y1 := h1.frozen 0
    have y2 := h2.frozen 0
    have gD : Below ((w1.setCell ⟨w.heap.size, 0, none⟩ (.int .i64 q)).setCell ⟨w.heap.size + 1, 0, none⟩ (.int .i64 er)).heap.size ((w1.setCell ⟨w.heap.size, 0, none⟩ (.int .i64 q)).setCell ⟨w.heap.size + 1, 0, none⟩ (.int .i64 er)) ((((w1.setCell ⟨w.heap.size, 0, none⟩ (.int .i64 q)).setCell ⟨w.heap.size + 1, 0, none⟩ (.int .i64 er)).alloc (.cells #[.int .i64 er, .int .i64 q] 58)).drew) := ((Below.refl _ _).alloc (Nat.le_refl _) _).drew
    have g1 := ((h1.set 0 (.int .i64 q)).set_other (p := ⟨w.heap.size + 1, 0, none⟩) (by simp) (.int .i64 er)).later gD
    have g2 := ((h2.set_other (p := ⟨w.heap.size, 0, none⟩) (by simp) (.int .i64 q)).set 0 (.int .i64 er)).later gD
    have HX1 := hidden (g1.cell 0 rfl)
    have HX2 := hidden (g2.cell 0 rfl)
    have HF := hidden (show CauO w G T (.returned (.tuple #[.int .i64 q, .int .i64 er])) ((((w1.setCell ⟨w.heap.size, 0, none⟩ (.int .i64 q)).setCell ⟨w.heap.size + 1, 0, none⟩ (.int .i64 er)).alloc (.cells #[.int .i64 er, .int .i64 q] 58)).drew) from
      ⟨W, w1, q, er, rfl, hs0, HB0.out, ((Only.setCell (F := [w.heap.size, w.heap.size + 1]) w1 (p := ⟨w.heap.size, 0, none⟩) (by simp) _).then (Only.setCell _ (p := ⟨w.heap.size + 1, 0, none⟩) (by simp) _)).then (Only.of_below gD), .inr hT⟩)
    clear h1 h2 g1 g2 e1 e2 hT gD
    refine leaves_cons (f := 26) (args := #[.pointer (some ⟨w.heap.size, 0, none⟩), .pointer (some ⟨w.heap.size + 1, 0, none⟩)]) (by simp) (by simp [go_sem]) ?_
    refine (catch_panicking w.heap.size (w.heap.size + 1) 0 0 er q [] w1 x1 y1 x2 y2 (by omega)).mono ?_
    rintro e u' w3 ⟨rfl, rfl, rfl⟩
    exact ⟨.tuple #[.int .i64 q, .int .i64 er], by simpa using res_caught rfl rfl HX1.out HX2.out, HF.out⟩
set_option maxHeartbeats 1000000 in
theorem caught_R (w : World) (p0 p1 p2 : Nat) (G : World → World → Prop) (T : World → World → Int → Int → Prop)
    (C : ∀ x : World, x.heap.size = w.heap.size + 2 → Below w.heap.size w x → Calls Try.prog 24 #[.pointer (some ⟨p0, 0, none⟩), .pointer (some ⟨p1, 0, none⟩), .pointer (some ⟨p2, 0, none⟩)] x fun e x' => Off w.heap.size x x' ∧ ((e = .returned (.tuple #[]) ∧ G x x') ∨ ∃ er q : Int, e = thrown er q ∧ T x x' er q)) :
    Calls Try.prog 21 #[.func (.func 24) #[] #[.pointer (some ⟨p0, 0, none⟩), .pointer (some ⟨p1, 0, none⟩), .pointer (some ⟨p2, 0, none⟩)]] w fun e w' => CauO w G T e w' := by
  have hmf : ∀ (fn : Fn) (first cap : Array Value) (w : World), (Instr.makeFunc fn first cap).run Try.prog w = .ok (.func fn first cap) w := fun _ _ _ _ => rfl
  have O := (((Own.refl w).alloc #[.int .i64 0] 3).alloc #[.int .i64 0] 24)
  have hs0 : ((w.alloc (.cells #[.int .i64 0] 3)).alloc (.cells #[.int .i64 0] 24)).heap.size = w.heap.size + 2 := by simp
  have hp1 := O.has (b := w.heap.size) (.tail _ (.head _))
  have hp2 := O.has (b := (w.alloc (.cells #[.int .i64 0] 3)).heap.size) (.head _)
  rw [World.size_alloc] at hp2
  have CC := hidden (C _ hs0 O.below)
  have HB0 := hidden O.below
  have HP1 := hidden hp1
  have HP2 := hidden hp2
  have hs0' := hs0
  clear C O hp1 hp2
  go_enter_defers Try.func21, Try.ntmps21
  go_wp2_with fail
  generalize hW : World.alloc (World.alloc w _) _ = W at *
  clear hW
  refine Calls.mono CC.out ?_
  rintro e w1 ⟨⟨hsz, e1, e2⟩, ⟨rfl, hG⟩ | ⟨er, q, rfl, hT⟩⟩
  · have h1 : Has w1 w.heap.size #[.int .i64 0] 3 := e1.trans HP1.out
    have h2 : Has w1 (w.heap.size + 1) #[.int .i64 0] 24 := e2.trans HP2.out
    have x1 := h1.cell 0 rfl
    have x2 := h2.cell 0 rfl
    have y1 := h1.frozen 0
    have y2 := h2.frozen 0
    have g1 := (h1.set 0 (.int .i64 0)).set_other (p := ⟨w.heap.size + 1, 0, none⟩) (by simp) (.int .i64 0)
    have g2 := (h2.set_other (p := ⟨w.heap.size, 0, none⟩) (by simp) (.int .i64 0)).set 0 (.int .i64 0)
    have HX1 := hidden (g1.cell 0 rfl)
    have HX2 := hidden (g2.cell 0 rfl)
    have HF := hidden (show CauO w G T (.returned (.tuple #[.int .i64 0, .int .i64 0])) ((w1.setCell ⟨w.heap.size, 0, none⟩ (.int .i64 0)).setCell ⟨w.heap.size + 1, 0, none⟩ (.int .i64 0)) from
      ⟨W, w1, 0, 0, rfl, hs0, HB0.out, (Only.setCell (F := [w.heap.size, w.heap.size + 1]) w1 (p := ⟨w.heap.size, 0, none⟩) (by simp) _).then (Only.setCell _ (p := ⟨w.heap.size + 1, 0, none⟩) (by simp) _), .inl ⟨rfl, rfl, hG⟩⟩)
    clear h1 h2 g1 g2 e1 e2 hG
    go_wp2
    refine leaves_cons (f := 26) (args := #[.pointer (some ⟨w.heap.size, 0, none⟩), .pointer (some ⟨w.heap.size + 1, 0, none⟩)]) (by simp) (by simp [go_sem]) ?_
    refine (catch_idle w.heap.size (w.heap.size + 1) _).mono ?_
    rintro e u' w3 ⟨rfl, rfl, rfl⟩
    exact ⟨.tuple #[.int .i64 0, .int .i64 0], by simpa using res_caught rfl rfl HX1.out HX2.out, HF.out⟩
  · have h1 : Has w1 w.heap.size #[.int .i64 0] 3 := e1.trans HP1.out
    have h2 : Has w1 (w.heap.size + 1) #[.int .i64 0] 24 := e2.trans HP2.out
    have x1 := h1.cell 0 rfl
    have x2 := h2.cell 0 rfl
    have y1 := h1.frozen 0
    have y2 := h2.frozen 0
    have gD : Below ((w1.setCell ⟨w.heap.size, 0, none⟩ (.int .i64 q)).setCell ⟨w.heap.size + 1, 0, none⟩ (.int .i64 er)).heap.size ((w1.setCell ⟨w.heap.size, 0, none⟩ (.int .i64 q)).setCell ⟨w.heap.size + 1, 0, none⟩ (.int .i64 er)) ((((w1.setCell ⟨w.heap.size, 0, none⟩ (.int .i64 q)).setCell ⟨w.heap.size + 1, 0, none⟩ (.int .i64 er)).alloc (.cells #[.int .i64 er, .int .i64 q] 58)).drew) := ((Below.refl _ _).alloc (Nat.le_refl _) _).drew
    have g1 := ((h1.set 0 (.int .i64 q)).set_other (p := ⟨w.heap.size + 1, 0, none⟩) (by simp) (.int .i64 er)).later gD
    have g2 := ((h2.set_other (p := ⟨w.heap.size, 0, none⟩) (by simp) (.int .i64 q)).set 0 (.int .i64 er)).later gD
    have HX1 := hidden (g1.cell 0 rfl)
    have HX2 := hidden (g2.cell 0 rfl)
    have HF := hidden (show CauO w G T (.returned (.tuple #[.int .i64 q, .int .i64 er])) ((((w1.setCell ⟨w.heap.size, 0, none⟩ (.int .i64 q)).setCell ⟨w.heap.size + 1, 0, none⟩ (.int .i64 er)).alloc (.cells #[.int .i64 er, .int .i64 q] 58)).drew) from
      ⟨W, w1, q, er, rfl, hs0, HB0.out, ((Only.setCell (F := [w.heap.size, w.heap.size + 1]) w1 (p := ⟨w.heap.size, 0, none⟩) (by simp) _).then (Only.setCell _ (p := ⟨w.heap.size + 1, 0, none⟩) (by simp) _)).then (Only.of_below gD), .inr hT⟩)
    clear h1 h2 g1 g2 e1 e2 hT gD
    refine leaves_cons (f := 26) (args := #[.pointer (some ⟨w.heap.size, 0, none⟩), .pointer (some ⟨w.heap.size + 1, 0, none⟩)]) (by simp) (by simp [go_sem]) ?_
    refine (catch_panicking w.heap.size (w.heap.size + 1) 0 0 er q [] w1 x1 y1 x2 y2 (by omega)).mono ?_
    rintro e u' w3 ⟨rfl, rfl, rfl⟩
    exact ⟨.tuple #[.int .i64 q, .int .i64 er], by simpa using res_caught rfl rfl HX1.out HX2.out, HF.out⟩
end Go.Proofs.Yteomkmbaoaahoaa.Fr
