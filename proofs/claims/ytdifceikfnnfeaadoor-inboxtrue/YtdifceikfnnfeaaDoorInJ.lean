/-
  The document's box: a packet was heard of; numbers are fixed; the fixed ones in order.
  Conditions: as at each lemma.
-/
import Derived.Test.YtdifceikfnnfeaaDoorInI
namespace Go.Proofs.YtdifceikfnnfeaaDoor.Sp.Inb
open Go.ChangeShapes Go.WideShapes Go.ChangeAt Go.RowKit
open Ba (hidden Has cell_lt heap_lt)
set_option linter.unusedVariables false
set_option maxRecDepth 20000
section
variable {n0 : Nat} {w : World} {r bs : Nat} {fx dp : Value} {P : List Nat} {s : St} {K : Nat}
/-- a packet was heard of -/
theorem r_heard_no (now : Int) (hn : timeOk now = false) (w : World) (p : Value) : Calls Tryd.prog 39 #[p, .int .i64 now] w fun e w' => e = .returned (.int .i64 1) ∧ w = w' := by
  have hh := of_decide_eq_false hn
  clear hn
  by_cases h1 : now < 0
  · go_enter Tryd.func39, Tryd.ntmps39
    go_wp2
    go_ret
    exact ⟨rfl, rfl⟩
  · have h2 : 1099511627776 < now := by omega
    clear hh
    go_enter Tryd.func39, Tryd.ntmps39
    go_wp2
    go_ret
    exact ⟨rfl, rfl⟩
theorem r_heard (h : Rf n0 w r bs fx dp P s) (now : Int) (hn : timeOk now = true) (h1 : 0 ≤ s.n) (h2 : s.n ≤ 1000000) (h3 : 0 ≤ s.delay ∧ s.delay ≤ 500) : Calls Tryd.prog 39 #[.pointer (some ⟨r, 0, none⟩), .int .i64 now] w fun e w' => e = .returned (.int .i64 0) ∧ Rf n0 w' r bs fx dp P (heardS now s) ∧ Mod (FD r bs fx dp) w w' := by
  obtain ⟨ra, rcap, c0, c1, c2, c3, c4, c5, c6, c7, c8, cf, d0, d1⟩ := h.cells
  obtain ⟨g1, g2, g3⟩ := h.nb
  have hnn : 0 ≤ now ∧ now ≤ 1099511627776 := of_decide_eq_true hn
  have hw1 : IntKind.i64.wrap (s.n + 1) = s.n + 1 := by rw [IntKind.wrap_i64]; omega
  have hw2 : IntKind.i64.wrap (now + s.delay) = now + s.delay := by rw [IntKind.wrap_i64]; omega
  obtain ⟨a, cap, hv⟩ := Ba.own_len h.d
  have hq3 : ∀ T : Int, Has (((w.setCell ⟨r, 5, none⟩ (.int .i64 (s.n + 1))).setCell ⟨r, 7, none⟩ (.bool true)).setCell ⟨r, 8, none⟩ (.int .i64 T)) r (rb bs s.nr s.delay fx dp (s.n + 1) s.made true T) 64 := fun T => ((h.q.set 5 _).set 7 _).set 8 _
  have hm3 : ∀ T : Int, Mod (fun k => k = r) w (((w.setCell ⟨r, 5, none⟩ (.int .i64 (s.n + 1))).setCell ⟨r, 7, none⟩ (.bool true)).setCell ⟨r, 8, none⟩ (.int .i64 T)) := fun T =>
    ((Mod.setCell (F := fun k => k = r) w (p := ⟨r, 5, none⟩) rfl _).trans (Mod.setCell (F := fun k => k = r) _ (p := ⟨r, 7, none⟩) rfl _) (fun x hx => .inl hx)).trans (Mod.setCell (F := fun k => k = r) _ (p := ⟨r, 8, none⟩) rfl _) (fun x hx => .inl hx)
  have FN := hidden (fun (T : Int) (hT : (heardS now s).time = T) => (⟨⟨by
      rw [show (heardS now s).n = s.n + 1 from rfl, show (heardS now s).nr = s.nr from rfl, show (heardS now s).delay = s.delay from rfl, show (heardS now s).made = s.made from rfl, hT, show decide (0 < s.n + 1) = true from decide_eq_true (by omega)]
      exact hq3 T, (hm3 T).isRef h.a (show ¬ bs = r from fun e => g1 e.symm) (fun k cs hk e => by have e : k = r := e; subst e; exact absurd (has_type hk h.q) (by decide)), (hm3 T).own h.f (fun k hk => show ¬ k = r from (g2 k hk).1), h.p, (hm3 T).own h.d (fun k hk => show ¬ k = r from (g3 k hk).1), h.ne, h.hr, h.hs, h.h0, Nat.le_trans h.hn (hm3 T).size⟩, (hm3 T).mono fun k hk => .inl hk⟩ : Rf n0 (((w.setCell ⟨r, 5, none⟩ (.int .i64 (s.n + 1))).setCell ⟨r, 7, none⟩ (.bool true)).setCell ⟨r, 8, none⟩ (.int .i64 T)) r bs fx dp P (heardS now s) ∧ Mod (FD r bs fx dp) w _))
  have f1 : ¬ now < 0 := by omega
  have f2 : ¬ 1099511627776 < now := by omega
  rw [hv] at c4
  have hE : (heardS now s).time = if atOnce s = true then now else now + s.delay := rfl
  by_cases k1 : 0 < s.D.length
  · have FT := hidden (FN.out now (by rw [hE, if_pos (by unfold atOnce; simp [k1])]))
    obtain ⟨m, hmm⟩ : ∃ m, s.D.length = m + 1 := ⟨s.D.length - 1, by omega⟩
    rw [hmm] at c4
    clear h hq3 hm3 hv hE k1 FN hn hmm
    go_enter Tryd.func39, Tryd.ntmps39
    go_wp2
    go_ret
    exact ⟨rfl, FT.out⟩
  · have hz0 : s.D.length = 0 := by omega
    rw [hz0] at c4
    by_cases k2 : 2 ≤ s.n + 1
    · have FT := hidden (FN.out now (by rw [hE, if_pos (by unfold atOnce; simp [k2])]))
      clear h hq3 hm3 hv hE k1 FN hn hz0
      go_enter Tryd.func39, Tryd.ntmps39
      go_wp2
      go_ret
      exact ⟨rfl, FT.out⟩
    · cases hmd : s.made with
      | false =>
        have FT := hidden (FN.out now (by rw [hE, if_pos (by unfold atOnce; simp [hmd])]))
        rw [hmd] at c6
        clear h hq3 hm3 hv hE k1 FN hn hmd hz0
        go_enter Tryd.func39, Tryd.ntmps39
        go_wp2
        go_ret
        exact ⟨rfl, FT.out⟩
      | true =>
        have FT := hidden (FN.out (now + s.delay) (by
          rw [hE, if_neg]
          unfold atOnce
          rw [hmd, decide_eq_false k1, decide_eq_false k2]
          decide))
        rw [hmd] at c6
        clear h hq3 hm3 hv hE k1 FN hn hmd hz0
        go_enter Tryd.func39, Tryd.ntmps39
        go_wp2
        go_ret
        exact ⟨rfl, FT.out⟩
end
end Go.Proofs.YtdifceikfnnfeaaDoor.Sp.Inb
