/-
  The code's small functions: numbers within bounds, a box that nobody made, a new box, what is told of it, a packet that was heard of.
  Conditions: the box was made by the package.
-/
import Derived.Test.YtdifceikfnnfeaaDoorInA
namespace Go.Proofs.YtdifceikfnnfeaaDoor.Sp.Inb
open Go.ChangeShapes Go.WideShapes Go.ChangeAt Go.RowKit
open Ba (hidden Has cell_lt heap_lt)
set_option linter.unusedVariables false
set_option maxRecDepth 20000

theorem within (n m : Int) (w : World) : Calls Tryd.prog 34 #[.int .i64 n, .int .i64 m] w fun e w' => e = .returned (.bool (decide (0 ≤ n ∧ n ≤ m))) ∧ w = w' := by
  by_cases h0 : 0 ≤ n
  · by_cases h1 : n ≤ m
    · rw [decide_eq_true (⟨h0, h1⟩ : 0 ≤ n ∧ n ≤ m)]
      go_enter Tryd.func34, Tryd.ntmps34
      go_wp2
      go_ret
      exact ⟨by simp, rfl⟩
    · rw [decide_eq_false (fun h : 0 ≤ n ∧ n ≤ m => h1 h.2)]
      go_enter Tryd.func34, Tryd.ntmps34
      go_wp2
      go_ret
      exact ⟨by simp <;> omega, rfl⟩
  · rw [decide_eq_false (fun h : 0 ≤ n ∧ n ≤ m => h0 h.1)]
    go_enter Tryd.func34, Tryd.ntmps34
    go_wp2
    go_ret
    exact ⟨rfl, rfl⟩

/-- no box -/
def Un (w : World) (p : Option Addr) : Prop := p = none ∨ ∃ t, p = some ⟨t, 0, none⟩ ∧ w.cell? ⟨t, 0, none⟩ = some (.pointer none)
theorem Un.later {w w' : World} {p : Option Addr} (h : Un w p) (hB : Below w.heap.size w w') : Un w' p := by
  rcases h with rfl | ⟨t, rfl, hc⟩
  · exact .inl rfl
  · exact .inr ⟨t, rfl, (hB.cell (p := ⟨t, 0, none⟩) (cell_lt hc)).trans hc⟩
theorem unmade_no {w : World} {p : Option Addr} (h : Un w p) : Calls Tryd.prog 43 #[.pointer p] w fun e w' => e = .returned (.bool true) ∧ w = w' := by
  rcases h with rfl | ⟨t, rfl, c0⟩
  · go_enter Tryd.func43, Tryd.ntmps43
    go_wp2
    go_ret
    exact ⟨rfl, rfl⟩
  · go_enter Tryd.func43, Tryd.ntmps43
    go_wp2
    go_ret
    exact ⟨rfl, rfl⟩
theorem cells_of {w : World} {b bc bf : Nat} {v : Value} {k z delay : Int} {made nr : Bool} (hq : Has w b (cb bc bf v k z made delay nr) 81) : w.cell? ⟨b, 0, none⟩ = some (.pointer (some ⟨bc, 0, none⟩)) ∧ w.cell? ⟨b, 1, none⟩ = some (.pointer (some ⟨bf, 0, none⟩)) ∧ w.cell? ⟨b, 2, none⟩ = some (.int .i64 delay) ∧ w.cell? ⟨b, 3, none⟩ = some (.bool nr) ∧ w.cell? ⟨b, 4, none⟩ = some v ∧ w.cell? ⟨b, 5, none⟩ = some (.int .i64 k) ∧ w.cell? ⟨b, 6, none⟩ = some (.int .i64 z) ∧ w.cell? ⟨b, 7, none⟩ = some (.bool made) ∧ ∀ i, w.frozen? ⟨b, i, none⟩ = false :=
  ⟨hq.cell 0 rfl, hq.cell 1 rfl, hq.cell 2 rfl, hq.cell 3 rfl, hq.cell 4 rfl, hq.cell 5 rfl, hq.cell 6 rfl, hq.cell 7 rfl, fun i => hq.frozen i⟩
section
variable {n0 : Nat} {w : World} {b bc bf : Nat} {v : Value} {s : St}
/-- its cells, to be read -/
theorem Cd.cells (h : Cd n0 w b bc bf v s) : ∃ z, Has w b (cb bc bf v s.n z s.made s.delay s.nr) 81 ∧ (0 < s.n → z = s.time) ∧ (0 ≤ z ∧ z ≤ 1099511628276) ∧ w.cell? ⟨b, 0, none⟩ = some (.pointer (some ⟨bc, 0, none⟩)) ∧ w.cell? ⟨b, 1, none⟩ = some (.pointer (some ⟨bf, 0, none⟩)) ∧ w.cell? ⟨b, 2, none⟩ = some (.int .i64 s.delay) ∧ w.cell? ⟨b, 3, none⟩ = some (.bool s.nr) ∧ w.cell? ⟨b, 4, none⟩ = some v ∧ w.cell? ⟨b, 5, none⟩ = some (.int .i64 s.n) ∧ w.cell? ⟨b, 6, none⟩ = some (.int .i64 z) ∧ w.cell? ⟨b, 7, none⟩ = some (.bool s.made) ∧ ∀ i, w.frozen? ⟨b, i, none⟩ = false := by
  obtain ⟨z, hq, hz, h1⟩ := h.q
  exact ⟨z, hq, hz, h1, hq.cell 0 rfl, hq.cell 1 rfl, hq.cell 2 rfl, hq.cell 3 rfl, hq.cell 4 rfl, hq.cell 5 rfl, hq.cell 6 rfl, hq.cell 7 rfl, fun i => hq.frozen i⟩
theorem unmade_ (h : Cd n0 w b bc bf v s) : Calls Tryd.prog 43 #[.pointer (some ⟨b, 0, none⟩)] w fun e w' => e = .returned (.bool false) ∧ w = w' := by
  obtain ⟨z, hq, hz, hz1, c0, c1, c2, c3, c4, c5, c6, c7, hf⟩ := h.cells
  clear h
  go_enter Tryd.func43, Tryd.ntmps43
  go_wp2
  go_ret
  exact ⟨rfl, rfl⟩
theorem Cum_ (h : Cd n0 w b bc bf v s) : Calls Tryd.prog 16 #[.pointer (some ⟨b, 0, none⟩)] w fun e w' => e = .returned (.int .u32 (s.c : Int)) ∧ w = w' := by
  obtain ⟨z, hq, hz, hz1, c0, c1, c2, c3, c4, c5, c6, c7, hf⟩ := h.cells
  have UM := hidden (unmade_ h)
  have CU := hidden (cumS h.a)
  clear h hq
  go_enter Tryd.func16, Tryd.ntmps16
  go_wp2_with fail
  refine Calls.mono UM.out ?_
  rintro e w' ⟨rfl, rfl⟩
  go_wp2_with fail
  refine Calls.mono CU.out ?_
  rintro e w' ⟨rfl, rfl⟩
  go_wp2
  go_ret
  exact ⟨rfl, rfl⟩
theorem Has_ (h : Cd n0 w b bc bf v s) (t : Nat) (ht : t < 4294967296) : Calls Tryd.prog 30 #[.pointer (some ⟨b, 0, none⟩), .int .u32 (t : Int)] w fun e w' => e = .returned (.bool (isIn s.c s.L t)) ∧ w = w' := by
  obtain ⟨z, hq, hz, hz1, c0, c1, c2, c3, c4, c5, c6, c7, hf⟩ := h.cells
  have UM := hidden (unmade_ h)
  have CU := hidden (has t ht w h.a)
  clear h hq
  generalize (t : Int) = tI at *
  go_enter Tryd.func30, Tryd.ntmps30
  go_wp2_with fail
  refine Calls.mono UM.out ?_
  rintro e w' ⟨rfl, rfl⟩
  go_wp2_with fail
  refine Calls.mono CU.out ?_
  rintro e w' ⟨rfl, rfl⟩
  go_wp2
  go_ret
  exact ⟨rfl, rfl⟩
theorem Due_ (h : Cd n0 w b bc bf v s) (h1 : 0 ≤ s.n) (h2 : s.n = 0 → s.time = 0) : Calls Tryd.prog 21 #[.pointer (some ⟨b, 0, none⟩)] w fun e w' => e = .returned (.tuple #[.int .i64 s.time, .bool (decide (0 < s.n))]) ∧ w = w' := by
  obtain ⟨z, hq, hz, hz1, c0, c1, c2, c3, c4, c5, c6, c7, hf⟩ := h.cells
  have UM := hidden (unmade_ h)
  clear h hq
  by_cases hn : s.n = 0
  · rw [h2 hn]
    rw [hn] at c5 ⊢
    clear hn h1 h2 hz
    go_enter Tryd.func21, Tryd.ntmps21
    go_wp2_with fail
    refine Calls.mono UM.out ?_
    rintro e w' ⟨rfl, rfl⟩
    go_wp2
    go_ret2
    exact ⟨rfl, rfl⟩
  · have hp : 0 < s.n := by omega
    have hd := hidden (decide_eq_true hp)
    rw [← hz hp]
    have hb : (s.n == 0) = false := by simpa using hn
    generalize s.n = n at *
    clear hn h1 h2 hz hp
    go_enter Tryd.func21, Tryd.ntmps21
    go_wp2_with fail
    refine Calls.mono UM.out ?_
    rintro e w' ⟨rfl, rfl⟩
    go_wp2
    go_ret2
    exact ⟨by rw [hd.out]; rfl, rfl⟩
end
/-- may the report wait? -/
theorem mayWait {w : World} {b bc bf len cap : Nat} {a : Option Addr} {k z delay : Int} {made nr : Bool} (hq : Has w b (cb bc bf (.slice a len cap) k z made delay nr) 81) : Calls Tryd.prog 47 #[.pointer (some ⟨b, 0, none⟩)] w fun e w' => e = .returned (.bool (made && decide (k < 2) && decide (len = 0))) ∧ w = w' := by
  obtain ⟨c0, c1, c2, c3, c4, c5, c6, c7, hf⟩ := cells_of hq
  clear hq
  cases made with
  | false =>
    go_enter Tryd.func47, Tryd.ntmps47
    go_wp2
    go_ret
    exact ⟨rfl, rfl⟩
  | true =>
    by_cases h2 : k < 2
    · rw [decide_eq_true h2]
      by_cases h3 : len = 0
      · subst h3
        go_enter Tryd.func47, Tryd.ntmps47
        go_wp2
        go_ret
        exact ⟨rfl, rfl⟩
      · rw [decide_eq_false h3]
        have hb : ((len : Int) == 0) = false := by simp; omega
        go_enter Tryd.func47, Tryd.ntmps47
        go_wp2
        go_ret
        exact ⟨by simp, rfl⟩
    · rw [decide_eq_false h2]
      go_enter Tryd.func47, Tryd.ntmps47
      go_wp2
      go_ret
      exact ⟨rfl, rfl⟩
theorem setUpTo (c : Nat) (hc : c < 4294967296) (w : World) (h0 : Tab w) : Calls Tryd.prog 35 #[.int .u32 (c : Int)] w fun e w' => ∃ bc bf, e = .returned (.agg #[.pointer (some ⟨bc, 0, none⟩), .pointer (some ⟨bf, 0, none⟩)]) ∧ IsSet w' bc c [] ∧ IsSet w' bf c [] ∧ bc ≠ bf ∧ w.heap.size ≤ bc ∧ w.heap.size ≤ bf ∧ Below w.heap.size w w' := by
  have N1 := hidden (fun X : World => new_ c hc X)
  go_enter Tryd.func35, Tryd.ntmps35
  go_wp2_with fail
  refine Calls.mono (N1.out _) ?_
  rintro e w1 ⟨rfl, hS1, hg1⟩
  go_wp2_with fail
  refine Calls.mono (N1.out _) ?_
  rintro e w2 ⟨rfl, hS2, hg2⟩
  have HQ := (((Has.new w #[.pointer none, .pointer none] 79).later (grown0.below hg1)).later (grown0.below hg2))
  have k0 : w2.cell? ⟨w.heap.size, 0, none⟩ = some (.pointer none) := HQ.cell 0 rfl
  have k1 : w2.cell? ⟨w.heap.size, 1, none⟩ = some (.pointer none) := HQ.cell 1 rfl
  have kf := HQ.frozen
  have hz1 : (w.alloc (.cells #[.pointer none, .pointer none] 79)).heap.size = w.heap.size + 1 := World.size_alloc ..
  have hs1 := hg1.size
  have hs2 := hg2.size
  have hlt := hS1.lt
  rw [hz1] at hs1 hS1 hlt
  have hB2 : Below w.heap.size w w2 := ((below_new w _).trans ((grown0.below hg1).mono (by omega))).trans ((grown0.below hg2).mono (by omega))
  go_wp2
  have HE := (HQ.set 0 (.pointer (some ⟨w.heap.size + 1, 0, none⟩))).set 1 (.pointer (some ⟨w1.heap.size, 0, none⟩))
  have hM : Mod (fun k => k = w.heap.size) w2 ((w2.setCell ⟨w.heap.size, 0, none⟩ (.pointer (some ⟨w.heap.size + 1, 0, none⟩))).setCell ⟨w.heap.size, 1, none⟩ (.pointer (some ⟨w1.heap.size, 0, none⟩))) :=
    (Mod.setCell (F := fun k => k = w.heap.size) w2 (p := ⟨w.heap.size, 0, none⟩) rfl _).trans (Mod.setCell (F := fun k => k = w.heap.size) _ (p := ⟨w.heap.size, 1, none⟩) rfl _) (fun x hx => .inl hx)
  refine bodyPost_ret (results_cell_row rfl _ _ w.heap.size 79 #[.pointer (some ⟨w.heap.size + 1, 0, none⟩), .pointer (some ⟨w1.heap.size, 0, none⟩)] (0, 0) _ rfl HE Tryd.underlying79 rfl (by kernel_rfl)) rfl ⟨_, _, rfl, hM.isSet (hS1.below (grown0.below hg2) hS1.lt) (show ¬ w.heap.size + 1 = w.heap.size by omega), hM.isSet hS2 (show ¬ w1.heap.size = w.heap.size by omega), by omega, by omega, by omega, ?_⟩
  exact hB2.trans (hM.below (by omega) (fun k hk => by omega))
/-- a new box -/
theorem new_box (first : Nat) (hc : first < 4294967296) (delay : Int) (nr : Bool) (w : World) (hT : Tab w) : Calls Tryd.prog 8 #[.int .u32 (first : Int), .int .i64 delay, .bool nr] w fun e w' =>
    (¬ (0 ≤ delay ∧ delay ≤ 500) ∧ e = .returned (.tuple #[.pointer none, .int .i64 190]) ∧ w = w') ∨
    ((0 ≤ delay ∧ delay ≤ 500) ∧ ∃ b bc bf, e = .returned (.tuple #[.pointer (some ⟨b, 0, none⟩), .int .i64 0]) ∧ Cd w.heap.size w' b bc bf (.slice none 0 0) (newS first delay nr) ∧ Below w.heap.size w w') := by
  have hn0 : 0 < w.heap.size := by have := cell_lt (hT 0 (by decide)); exact this
  have WI := hidden (within delay 500)
  have hu : IntKind.u32.wrap ((first : Int) - 1) = ((((first : Int) - 1) % 4294967296).toNat : Int) := by show ((first : Int) - 1) % 4294967296 = _; omega
  have hcl : (((first : Int) - 1) % 4294967296).toNat < 4294967296 := by omega
  by_cases h : 0 ≤ delay ∧ delay ≤ 500
  · have hd := hidden (decide_eq_true h)
    have HH := hidden h
    have SU := hidden (fun X hX => setUpTo _ hcl X hX)
    have HN := hidden (show newS first delay nr = ⟨(((first : Int) - 1) % 4294967296).toNat, [], [], [], 0, false, 0, delay, nr⟩ from rfl)
    generalize (((first : Int) - 1) % 4294967296).toNat = c at *
    clear h
    go_enter Tryd.func8, Tryd.ntmps8
    go_wp2_with fail
    refine Calls.mono (WI.out _) ?_
    rintro e w' ⟨rfl, rfl⟩
    rw [hd.out]
    go_wp2_with fail
    refine Calls.mono (SU.out _ hT) ?_
    rintro e w1 ⟨bc, bf, rfl, h1, h2, h3, h4, h5, h6⟩
    have hn1 := h6.size
    go_wp2
    go_ret2
    refine .inr ⟨HH.out, w1.heap.size, bc, bf, rfl, ?_, h6.alloc hn1 _⟩
    rw [HN.out]
    have hBa : Below w1.heap.size w1 (w1.alloc (.cells (cb bc bf (.slice none 0 0) 0 0 false delay nr) 81)) := below_new _ _
    exact ⟨⟨0, Has.new w1 (cb bc bf (.slice none 0 0) 0 0 false delay nr) 81, fun _ => rfl, by decide⟩, h1.below hBa h1.lt, h2.below hBa h2.lt, h3, World.ownsRow_nil _ _ _ _, hT.below (h6.alloc hn1 _) hn0, by omega, h4, h5, hn0, by rw [World.size_alloc]; omega⟩
  · have hd := hidden (decide_eq_false h)
    have HH := hidden h
    clear h hcl hu
    go_enter Tryd.func8, Tryd.ntmps8
    go_wp2_with fail
    refine Calls.mono (WI.out _) ?_
    rintro e w' ⟨rfl, rfl⟩
    rw [hd.out]
    go_wp2
    go_ret2
    exact .inl ⟨HH.out, rfl, rfl⟩
/-- a packet was heard of -/
theorem Heard_no {n0 : Nat} {w : World} {b bc bf : Nat} {v : Value} {s : St} (h : Cd n0 w b bc bf v s) (now : Int) (hn : timeOk now = false) : Calls Tryd.prog 20 #[.pointer (some ⟨b, 0, none⟩), .int .i64 now] w fun e w' => e = .returned (.int .i64 1) ∧ w = w' := by
  have UM := hidden (unmade_ h)
  have WI := hidden (within now 1099511627776)
  have hd := hidden (show decide (0 ≤ now ∧ now ≤ 1099511627776) = false from hn)
  clear h hn
  go_enter Tryd.func20, Tryd.ntmps20
  go_wp2_with fail
  refine Calls.mono UM.out ?_
  rintro e w' ⟨rfl, rfl⟩
  go_wp2_with fail
  refine Calls.mono (WI.out _) ?_
  rintro e w' ⟨rfl, rfl⟩
  rw [hd.out]
  go_wp2
  go_ret
  exact ⟨rfl, rfl⟩
theorem Heard_ {n0 : Nat} {w : World} {b bc bf : Nat} {v : Value} {s : St} (h : Cd n0 w b bc bf v s) (now : Int) (hn : timeOk now = true) (h1 : 0 ≤ s.n) (h2 : s.n ≤ 1000000) (h3 : 0 ≤ s.delay ∧ s.delay ≤ 500) : Calls Tryd.prog 20 #[.pointer (some ⟨b, 0, none⟩), .int .i64 now] w fun e w' => e = .returned (.int .i64 0) ∧ Cd n0 w' b bc bf v (heardS now s) ∧ Mod (FC b bc bf v) w w' := by
  obtain ⟨z, hq, hz, hz1, c0, c1, c2, c3, c4, c5, c6, c7, hf⟩ := h.cells
  have UM := hidden (unmade_ h)
  have WI := hidden (within now 1099511627776)
  have hd := hidden (show decide (0 ≤ now ∧ now ≤ 1099511627776) = true from hn)
  have hnn : 0 ≤ now ∧ now ≤ 1099511627776 := of_decide_eq_true hn
  have hw1 : IntKind.i64.wrap (s.n + 1) = s.n + 1 := by rw [IntKind.wrap_i64]; omega
  have hw2 : IntKind.i64.wrap (now + s.delay) = now + s.delay := by rw [IntKind.wrap_i64]; omega
  obtain ⟨a, cap, hv⟩ := Ba.own_len h.d
  subst hv
  obtain ⟨w2, hw⟩ : ∃ w2, (w.setCell ⟨b, 5, none⟩ (.int .i64 (s.n + 1))).setCell ⟨b, 6, none⟩ (.int .i64 now) = w2 := ⟨_, rfl⟩
  have hq2 : Has w2 b (cb bc bf (.slice a s.D.length cap) (s.n + 1) now s.made s.delay s.nr) 81 := by rw [← hw]; exact (hq.set 5 _).set 6 _
  have hm2 : Mod (fun k => k = b) w w2 := by
    rw [← hw]
    exact (Mod.setCell (F := fun k => k = b) w (p := ⟨b, 5, none⟩) rfl _).trans (Mod.setCell (F := fun k => k = b) _ (p := ⟨b, 6, none⟩) rfl _) (fun x hx => .inl hx)
  have MW := hidden (mayWait hq2)
  obtain ⟨d0, d1, d2, d3, d4, d5, d6, d7, df⟩ := cells_of hq2
  have hat : (s.made && decide (s.n + 1 < 2) && decide (s.D.length = 0)) = !atOnce s := by
    unfold atOnce
    rw [Bool.not_or, Bool.not_or, Bool.not_not, ← decide_not, ← decide_not, Bool.and_comm, Bool.and_comm s.made, ← Bool.and_assoc]
    congr 2
    · exact decide_eq_decide.2 (by omega)
    · exact decide_eq_decide.2 (by omega)
  have fin : ∀ w3 : World, Has w3 b (cb bc bf (.slice a s.D.length cap) (s.n + 1) (heardS now s).time s.made s.delay s.nr) 81 → Mod (fun k => k = b) w w3 → Cd n0 w3 b bc bf (.slice a s.D.length cap) (heardS now s) ∧ Mod (FC b bc bf (.slice a s.D.length cap)) w w3 := fun w3 hq3 hm3 => by
    obtain ⟨g1, g2, g3⟩ := h.nb
    refine ⟨⟨⟨_, hq3, fun _ => rfl, ?_⟩, hm3.isSet h.a (show ¬ bc = b by omega), hm3.isSet h.f (show ¬ bf = b by omega), h.ne, hm3.own h.d (fun k hk => by have := (g3 k hk).1; show ¬ k = b; omega), fun i hi => hm3.cell (h.t i hi) (by have := h.hb; have := h.h0; show ¬ 0 = b; omega), h.hb, h.hc, h.hf, h.h0, Nat.le_trans h.hn hm3.size⟩, hm3.mono fun k hk => .inl hk⟩
    simp only [heardS]
    split <;> omega
  have HFIN := hidden fin
  cases hat2 : atOnce s with
  | true =>
    have hE : (heardS now s).time = now := by simp [heardS, hat2]
    rw [hat2] at hat
    have HAT := hidden hat
    have FN := hidden (HFIN.out w2 (by rw [hE]; exact hq2) hm2)
    clear h hq hn hnn fin HFIN hat hat2 hE hm2 hz hq2
    go_enter Tryd.func20, Tryd.ntmps20
    go_wp2_with fail
    refine Calls.mono UM.out ?_
    rintro e w' ⟨rfl, rfl⟩
    go_wp2_with fail
    refine Calls.mono (WI.out _) ?_
    rintro e w' ⟨rfl, rfl⟩
    rw [hd.out]
    go_wp2_with fail
    refine Calls.mono MW.out ?_
    rintro e w' ⟨rfl, rfl⟩
    rw [HAT.out]
    go_wp2
    go_ret
    exact ⟨rfl, FN.out⟩
  | false =>
    have hE : (heardS now s).time = now + s.delay := by simp [heardS, hat2]
    rw [hat2] at hat
    have HAT := hidden hat
    have FN := hidden (HFIN.out (w2.drew.setCell ⟨b, 6, none⟩ (.int .i64 (now + s.delay))) (by rw [hE]; exact Has.set (w := w2.drew) hq2 6 _) (hm2.drew2.trans (Mod.setCell (F := fun k => k = b) _ (p := ⟨b, 6, none⟩) rfl _) (fun x hx => .inl hx)))
    have C6 : Hid (w2.drew.cell? ⟨b, 6, none⟩ = some (.int .i64 now)) := d6
    have C2 : Hid (w2.drew.cell? ⟨b, 2, none⟩ = some (.int .i64 s.delay)) := d2
    have HW := hidden hw2
    have HST : Hid ((Instr.storeAt 3 (.pointer (some ⟨b, 6, none⟩)) (.int .i64 (now + s.delay))).run Tryd.prog w2.drew = .ok () (w2.drew.setCell ⟨b, 6, none⟩ (.int .i64 (now + s.delay)))) := by
      have e1 : w2.drew.cell? ⟨b, 6, none⟩ = some (.int .i64 now) := d6
      have e2 : w2.drew.frozen? ⟨b, 6, none⟩ = false := df 6
      show _ = _
      simp [go_sem, e1, e2]
    clear h hq hn hnn fin HFIN hat hat2 hE hm2 hz hq2
    go_enter Tryd.func20, Tryd.ntmps20
    go_wp2_with fail
    refine Calls.mono UM.out ?_
    rintro e w' ⟨rfl, rfl⟩
    go_wp2_with fail
    refine Calls.mono (WI.out _) ?_
    rintro e w' ⟨rfl, rfl⟩
    rw [hd.out]
    go_wp2_with fail
    refine Calls.mono MW.out ?_
    rintro e w' ⟨rfl, rfl⟩
    rw [HAT.out]
    go_wp2_with fail
    refine Ord.wp_region_ex0 (X := Unit) (by kernel_rfl) 36 (fun x => [(some 25, .pointer (some ⟨b, 0, none⟩)), (some 26, .pointer (some ⟨b, 0, none⟩)), (some 27, .pointer (some ⟨b, 6, none⟩)), (some 28, .int .i64 now), (some 29, .pointer (some ⟨b, 0, none⟩)), (some 30, .pointer (some ⟨b, 0, none⟩)), (some 31, .pointer (some ⟨b, 2, none⟩)), (some 32, .int .i64 s.delay), (some 33, .int .i64 (now + s.delay)), (some 34, .pointer (some ⟨b, 0, none⟩)), (some 35, .pointer (some ⟨b, 6, none⟩)), (none, undef)]) [some 25, some 26, some 27, some 28, some 29, some 30, some 31, some 32, some 33, some 34, some 35, none] rfl (fun listed hsz hr => Ord.all_listedC (rank := [0, 1, 2, 3, 4, 5, 6, 7, 8, 9, 10, 11]) (by kernel_rfl) hsz hr) (by rfl) (fun _ => rfl) (by kernel_rfl) (Rg.StM [11] (fun skk sxx w' => (skk = 0 → w' = w2.drew) ∧ (skk = 1 → w' = w2.drew.setCell ⟨b, 6, none⟩ (.int .i64 (now + s.delay))))) (fun _ _ _ _ hL h => h.ext (n := 12) (by decide) hL) ?_ ?_ () ?_
    case refine_1 =>
      intro x Lq iq oq ac w' ho hi hcl hdep hF hW
      have f1 : ac.tmps.size = 36 := hF.1
      match iq, ho, hi, hdep with
      | 0, ho, hi, hdep =>
        cases ho
        have da0 : ac.eval (.tmp 0) = .pointer (some ⟨b, 0, none⟩) := hF.old 0 rfl
        exact Ord.ex_value x rfl rfl (Rg.mv da0 rfl) rfl (hW.keep (by decide))
      | 1, ho, hi, hdep =>
        cases ho
        have da0 : ac.eval (.tmp 25) = .pointer (some ⟨b, 0, none⟩) := hF.2.2.2 0 25 _ rfl (hdep ⟨0, .data⟩ (by simp) rfl)
        exact Ord.ex_value x rfl rfl (Rg.nilc da0 rfl) rfl (hW.keep (by decide))
      | 2, ho, hi, hdep =>
        cases ho
        have da0 : ac.eval (.tmp 26) = .pointer (some ⟨b, 0, none⟩) := hF.2.2.2 1 26 _ rfl (hdep ⟨1, .data⟩ (by simp) rfl)
        exact Ord.ex_value x rfl rfl (Rg.fa da0 rfl (by simp [go_sem])) rfl (hW.keep (by decide))
      | 3, ho, hi, hdep =>
        cases ho
        have da0 : ac.eval (.tmp 27) = .pointer (some ⟨b, 6, none⟩) := hF.2.2.2 2 27 _ rfl (hdep ⟨2, .data⟩ (by simp) rfl)
        obtain ⟨kq, hlo, hhi, hA⟩ := hW.range 0 0 (.inl rfl) (.inr ⟨11, rfl, (Rg.no_of (fun h => hcl 11 _ rfl (h) ⟨3, .phase⟩ (by simp) rfl) hi)⟩)
        exact Ord.ex_value x rfl rfl (Rg.load da0 rfl (by rw [hA.1 (by omega)]; simp [go_sem, C6.out])) rfl (hW.keep (by decide))
      | 4, ho, hi, hdep =>
        cases ho
        have da0 : ac.eval (.tmp 0) = .pointer (some ⟨b, 0, none⟩) := hF.old 0 rfl
        exact Ord.ex_value x rfl rfl (Rg.mv da0 rfl) rfl (hW.keep (by decide))
      | 5, ho, hi, hdep =>
        cases ho
        have da0 : ac.eval (.tmp 29) = .pointer (some ⟨b, 0, none⟩) := hF.2.2.2 4 29 _ rfl (hdep ⟨4, .data⟩ (by simp) rfl)
        exact Ord.ex_value x rfl rfl (Rg.nilc da0 rfl) rfl (hW.keep (by decide))
      | 6, ho, hi, hdep =>
        cases ho
        have da0 : ac.eval (.tmp 30) = .pointer (some ⟨b, 0, none⟩) := hF.2.2.2 5 30 _ rfl (hdep ⟨5, .data⟩ (by simp) rfl)
        exact Ord.ex_value x rfl rfl (Rg.fa da0 rfl (by simp [go_sem])) rfl (hW.keep (by decide))
      | 7, ho, hi, hdep =>
        cases ho
        have da0 : ac.eval (.tmp 31) = .pointer (some ⟨b, 2, none⟩) := hF.2.2.2 6 31 _ rfl (hdep ⟨6, .data⟩ (by simp) rfl)
        obtain ⟨kq, hlo, hhi, hA⟩ := hW.range 0 0 (.inl rfl) (.inr ⟨11, rfl, (Rg.no_of (fun h => hcl 11 _ rfl (h) ⟨7, .phase⟩ (by simp) rfl) hi)⟩)
        exact Ord.ex_value x rfl rfl (Rg.load da0 rfl (by rw [hA.1 (by omega)]; simp [go_sem, C2.out])) rfl (hW.keep (by decide))
      | 8, ho, hi, hdep =>
        cases ho
        have da0 : ac.eval (.tmp 28) = .int .i64 now := hF.2.2.2 3 28 _ rfl (hdep ⟨3, .data⟩ (by simp) rfl)
        have da1 : ac.eval (.tmp 32) = .int .i64 s.delay := hF.2.2.2 7 32 _ rfl (hdep ⟨7, .data⟩ (by simp) rfl)
        exact Ord.ex_value x rfl rfl (Rg.bin da0 da1 rfl (by simp [go_sem, HW.out])) rfl (hW.keep (by decide))
      | 9, ho, hi, hdep =>
        cases ho
        have da0 : ac.eval (.tmp 25) = .pointer (some ⟨b, 0, none⟩) := hF.2.2.2 0 25 _ rfl (hdep ⟨0, .data⟩ (by simp) rfl)
        exact Ord.ex_value x rfl rfl (Rg.nilc da0 rfl) rfl (hW.keep (by decide))
      | 10, ho, hi, hdep =>
        cases ho
        have da0 : ac.eval (.tmp 34) = .pointer (some ⟨b, 0, none⟩) := hF.2.2.2 9 34 _ rfl (hdep ⟨9, .data⟩ (by simp) rfl)
        exact Ord.ex_value x rfl rfl (Rg.fa da0 rfl (by simp [go_sem])) rfl (hW.keep (by decide))
      | 11, ho, hi, hdep =>
        cases ho
        have da0 : ac.eval (.tmp 35) = .pointer (some ⟨b, 6, none⟩) := hF.2.2.2 10 35 _ rfl (hdep ⟨10, .data⟩ (by simp) rfl)
        have da1 : ac.eval (.tmp 33) = .int .i64 (now + s.delay) := hF.2.2.2 8 33 _ rfl (hdep ⟨8, .data⟩ (by simp) rfl)
        have hA := hW.at (k := 0) rfl hi (.inl rfl)
        have hw := hA.1 rfl
        subst hw
        exact Rg.ex_skip x rfl rfl (Rg.sto da0 da1 rfl HST.out) rfl (hW.next (k := 0) rfl (by decide) hi (.inl rfl) ⟨fun e => absurd e (by decide), fun _ => rfl⟩)
    case refine_3 => exact Rg.StM.first ⟨fun _ => rfl, fun e => absurd e (by decide)⟩
    case refine_2 =>
      intro v' w2 hW
      have hA := hW.last
      have hw2 := hA.2 rfl
      subst hw2
      clear hW hA
      simp only [Ord.puts, Ord.prs]
      go_simp

      go_wp2
      go_ret
      exact ⟨rfl, FN.out⟩
end Go.Proofs.YtdifceikfnnfeaaDoor.Sp.Inb
