/-
  The document's table of timers: a list in order; two rows held against one another.
  Conditions: the list lies in memory, at most 4096 timers.
-/
import Derived.Test.YtinhhfnknlmdgaaTmS
import Derived.Laws.AppendOwnNone
namespace Go.Proofs.Ytinhhfnknlmdgaa.Tm
open Go.RowKit Go.Sort Go.ChangeShapes Go.WideShapes Go.ChangeAt
open Ba (hidden Only In Has own_ne own_stay own_len own_some own_mono cell_lt heap_lt)
set_option linter.unusedVariables false

/-- the document's table in block r -/
def RT (w : World) (r : Nat) (S : List D) (now : Int) (F : List Nat) : Prop :=
  ∃ v, F = r :: v.ownBlock.toList ∧ Has w r #[v, .int .i64 now] 28 ∧ Own w v S ∧ S.length ≤ 4096
def RTO (w w' : World) (r : Nat) (S : List D) (now : Int) (F : List Nat) : Prop := ∃ F', RT w' r S now F' ∧ Only F w w' ∧ In F F' w
theorem RT.lt {w : World} {r : Nat} {S : List D} {now : Int} {F : List Nat} (h : RT w r S now F) : ∀ k ∈ F, k < w.heap.size := by
  obtain ⟨v, rfl, h1, h2, _⟩ := h
  intro k hk
  rcases List.mem_cons.1 hk with rfl | hk
  · exact h1.lt
  · exact (h2.lt k (by simpa using hk)).2
theorem RT.stay {w w' : World} {r : Nat} {S : List D} {now : Int} {F G : List Nat} (h : RT w r S now F) (ho : Only G w w') (hn : ∀ k ∈ F, k ∉ G) : RT w' r S now F := by
  obtain ⟨v, rfl, h1, h2, h3⟩ := h
  exact ⟨v, rfl, h1.stay ho (hn r (by simp)), own_stay h2 ho (fun k hk => hn k (by simp [hk])), h3⟩
theorem RT.later {w w' : World} {r : Nat} {S : List D} {now : Int} {F : List Nat} (h : RT w r S now F) (hB : Below w.heap.size w w') : RT w' r S now F := h.stay (G := []) (Only.of_below hB) (by simp)
theorem Own.rw {w : World} {v : Value} {X : List D} (h : Own w v X) (hl : X.length ≤ 281474976710656) : Rw w v X := by
  obtain ⟨a, cap, rfl⟩ := own_len h
  refine ⟨hl, a, cap, rfl, ?_⟩
  by_cases h0 : X.length = 0
  · exact .inl h0
  · obtain ⟨g, cap', e, hg, _⟩ := h.get (i := 0) (by omega)
    cases e
    exact .inr ⟨g, 0, rfl, hg, fun j hj => by obtain ⟨q1, q2, _⟩ := h.cell hj; rw [Nat.zero_add]; exact ⟨q1, q2⟩⟩
theorem Rw.later {w w' : World} {v : Value} {X : List D} (h : Rw w v X) (hB : Below w.heap.size w w') : Rw w' v X := by
  obtain ⟨h0, a, cap, rfl, h⟩ := h
  refine ⟨h0, a, cap, rfl, h.imp id ?_⟩
  rintro ⟨b, off, rfl, hb, hc⟩
  exact ⟨b, off, rfl, Nat.lt_of_lt_of_le hb hB.size, fun j hj => ⟨(hB.cell (p := ⟨b, off + j * 2, none⟩) hb).trans (hc j hj).1, (hB.cell (p := ⟨b, off + j * 2 + 1, none⟩) hb).trans (hc j hj).2⟩⟩

theorem rnext {w : World} {r : Nat} {S : List D} {now : Int} {F : List Nat} (h : RT w r S now F) : Calls Try.prog 28 #[.pointer (some ⟨r, 0, none⟩)] w fun e w' => e = .returned (nextV S) ∧ Below w.heap.size w w' := by
  obtain ⟨v, rfl, h1, h2, h3⟩ := h
  have hb := h1.lt
  by_cases h0 : 0 < S.length
  · obtain ⟨g, cap, rfl, hg, _⟩ := h2.get h0
    have c0 := h1.cell 0 rfl
    obtain ⟨c1, c2, _⟩ := h2.cell h0
    simp only [Nat.zero_mul, Nat.zero_add] at c1 c2
    have hl : (0 : Int) < (S.length : Int) := by omega
    have hl2 : ((S.length : Int) == 0) = false := beq_eq_false_iff_ne.2 (by omega)
    rw [show nextV S = .tuple #[dv (at_ S 0), .bool true] by unfold nextV; rw [decide_eq_true h0, at_get h0]; rfl]
    unfold dv
    generalize at_ S 0 = d at c1 c2 ⊢
    generalize S.length = l at *
    clear h1 h2
    go_enter Try.func28, Try.ntmps28
    go_wp2
    refine bodyPost_ret (v := .tuple #[.agg #[.int .i64 d.1, .int .i64 d.2], .bool true]) (by rw [results_cell_tmp rfl]; go_simp) rfl ⟨rfl, ?_⟩
    exact (Below.refl _ w).alloc (Nat.le_refl _) _
  · obtain ⟨a, cap, rfl⟩ := own_len h2
    have e0 : S = [] := List.eq_nil_of_length_eq_zero (by omega)
    subst e0
    have c0 := h1.cell 0 rfl
    clear h1 h2
    rw [show nextV [] = .tuple #[.agg #[.int .i64 0, .int .i64 0], .bool false] from rfl]
    simp only [List.length_nil] at c0
    go_enter Try.func28, Try.ntmps28
    go_wp2
    refine bodyPost_ret (v := .tuple #[.agg #[.int .i64 0, .int .i64 0], .bool false]) (by rw [results_cell_tmp rfl]; go_simp) rfl ⟨rfl, ?_⟩
    exact (Below.refl _ w).alloc (Nat.le_refl _) _
/-- none of the first ones has the number -/
def NoneYet (k : Int) (S : List D) (n : Nat) : Prop := ∀ j, j < n → (at_ S j).1 ≠ k
theorem look_at {k : Int} {S : List D} {n : Nat} (h : NoneYet k S n) (hn : n < S.length) (he : (at_ S n).1 = k) : look k S = some (at_ S n) := by
  unfold look
  rw [List.find?_eq_some_iff_getElem]
  have ea : ∀ j (hj : j < S.length), S[j] = at_ S j := fun j hj => by unfold at_; rw [List.getD_eq_getElem?_getD, List.getElem?_eq_getElem hj]; rfl
  refine ⟨by simpa using he, n, hn, ea n hn, fun j hj => ?_⟩
  rw [ea j (by omega)]
  simpa using h j hj
theorem look_none {k : Int} {S : List D} (h : NoneYet k S S.length) : look k S = none := by
  unfold look
  rw [List.find?_eq_none]
  intro x hx e
  obtain ⟨j, hj, rfl⟩ := List.mem_iff_getElem.1 hx
  have := h j hj
  unfold at_ at this
  rw [List.getD_eq_getElem?_getD, List.getElem?_eq_getElem hj] at this
  exact this (by simpa using e)
theorem rget {w : World} {r : Nat} {S : List D} {now : Int} {F : List Nat} (h : RT w r S now F) (id : Int) : Calls Try.prog 29 #[.pointer (some ⟨r, 0, none⟩), .int .i64 id] w fun e w' => e = .returned (getV id S) ∧ w = w' := by
  obtain ⟨v, rfl, h1, h2, h3⟩ := h
  obtain ⟨a, cap, rfl⟩ := own_len h2
  have c0 := h1.cell 0 rfl
  have H2 := hidden h2
  obtain ⟨l, hl⟩ : ∃ l, l = S.length := ⟨_, rfl⟩
  have HL := hidden hl
  have c0' : w.cell? ⟨r, 0, none⟩ = some (.slice a l cap) := by rw [hl]; exact c0
  have i1 : (l : Int) ≤ 4096 := by omega
  clear c0 h1 h2 h3 hl
  go_enter Try.func29, Try.ntmps29
  go_wp2_with fail
  go_loopw [6] (fun i wr => ∃ (q : Int) (qn : Nat), i = .int .i64 q ∧ Hid (q = qn ∧ NoneYet id S qn) ∧ 0 ≤ q ∧ q ≤ (l : Int) ∧ wr = w) (fun i _ => l - (intOf i).toNat)
  case atStart => exact ⟨0, 0, rfl, ⟨rfl, fun j hj => by omega⟩, by omega, by omega, rfl⟩
  case round =>
    obtain ⟨q, qn, rfl, HR, j1, j2, rfl⟩ := hrel
    by_cases hlt : q < (l : Int)
    · obtain ⟨r1, r2⟩ := HR.out
      have hqn : qn < S.length := by have := HL.out; omega
      obtain ⟨g, cap', e, hg, _⟩ := H2.out.get hqn
      cases e
      obtain ⟨k1, k2, _⟩ := H2.out.cell hqn
      have eq : qn = q.toNat := by omega
      rw [eq] at k1 k2
      by_cases hd : (at_ S q.toNat).1 = id
      · have HV : Hid (getV id S = .tuple #[.int .i64 (at_ S q.toNat).2, .bool true]) := by
          unfold Hid getV
          rw [look_at r2 hqn (by rw [eq]; exact hd), eq]
          rfl
        rw [hd] at k1
        generalize (at_ S q.toNat).2 = tm at k2 HV
        clear r1 r2 hqn eq hd HR
        go_wp2
        go_ret2
        exact ⟨by rw [HV.out]; rfl, by trivial⟩
      · have hd' : ((at_ S q.toNat).1 == id) = false := beq_eq_false_iff_ne.2 hd
        have HN : Hid (NoneYet id S (qn + 1)) := fun j hj => by
          by_cases e : j = qn
          · rw [e, eq]; exact hd
          · exact r2 j (by omega)
        have HQ := hidden r1
        generalize (at_ S q.toNat).1 = dd at k1 hd'
        generalize (at_ S q.toNat).2 = tm at k2
        clear r1 r2 hqn eq hd HR
        go_wp2
        go_roundw
        case rel => exact ⟨_, qn + 1, rfl, ⟨by have := HQ.out; omega, HN.out⟩, by omega, by omega, by trivial⟩
        case measure => simp [intOf]; omega
    · have HV : Hid (getV id S = .tuple #[.int .i64 0, .bool false]) := by
        obtain ⟨r1, r2⟩ := HR.out
        unfold Hid getV
        have hq : qn = S.length := by have := HL.out; omega
        rw [look_none (by rw [← hq]; exact r2)]
        rfl
      go_wp2
      go_ret2
      exact ⟨by rw [HV.out]; rfl, by trivial⟩
theorem rsame (w : World) (v1 v2 : Value) (X : List D) (h1 : Rw w v1 X) (h2 : Rw w v2 X) : Calls Try.prog 16 #[v1, v2] w fun e w' => e = .returned (.bool true) ∧ Below w.heap.size w w' := by
  obtain ⟨hn, a1, c1, rfl, h1⟩ := h1
  obtain ⟨_, a2, c2, rfl, h2⟩ := h2
  go_enter Try.func16, Try.ntmps16
  go_wp2
  go_loopw [5] (fun i wr => ∃ q : Int, 0 ≤ q ∧ q ≤ (X.length : Int) ∧ i = .int .i64 q ∧ Below w.heap.size w wr) (fun i wr => X.length - (intOf i).toNat)
  case atStart => exact ⟨0, by omega, by omega, rfl, Below.refl _ _⟩
  case round =>
    obtain ⟨q, hq0, hq, rfl, hB⟩ := hrel
    by_cases hlt : q < (X.length : Int)
    · obtain ⟨b1, o1, rfl, hb1, hc1⟩ := h1.resolve_left (by omega)
      obtain ⟨b2, o2, rfl, hb2, hc2⟩ := h2.resolve_left (by omega)
      have k1 := (hB.cell (p := ⟨b1, o1 + q.toNat * 2, none⟩) hb1).trans (hc1 q.toNat (by omega)).1
      have k2 := (hB.cell (p := ⟨b1, o1 + q.toNat * 2 + 1, none⟩) hb1).trans (hc1 q.toNat (by omega)).2
      have k3 := (hB.cell (p := ⟨b2, o2 + q.toNat * 2, none⟩) hb2).trans (hc2 q.toNat (by omega)).1
      have k4 := (hB.cell (p := ⟨b2, o2 + q.toNat * 2 + 1, none⟩) hb2).trans (hc2 q.toNat (by omega)).2
      generalize (at_ X q.toNat).1 = z1 at k1 k3
      generalize (at_ X q.toNat).2 = z2 at k2 k4
      clear h1 h2 hc1 hc2
      go_wp2
      go_quiet (fail)
      obtain ⟨w2, hw2, hh2⟩ : ∃ w2, wr.drewN nq = w2 ∧ Hid (Below w.heap.size w w2) := ⟨_, rfl, ⟨hB.os, hB.tape, hB.output, hB.size, hB.block⟩⟩
      rw [hw2]
      clear hw2
      go_wp2
      go_roundw
      case rel => exact ⟨q + 1, by omega, by omega, rfl, hh2.out⟩
      case measure => simp only [intOf]; omega
    · clear h1 h2
      go_wp2
      go_ret
      exact ⟨rfl, hB⟩
end Go.Proofs.Ytinhhfnknlmdgaa.Tm
