/-
  The document's network: which packets there are, what is told of them.
  Conditions: it lies in memory.
-/
import Derived.Test.YtmogacccffkkbaaNtR
namespace Go.Proofs.Ytmogacccffkkbaa.Nt
open Go.ChangeShapes Go.WideShapes Go.ChangeAt Go.RowKit
open Ba (hidden Only In Has own_ne own_stay own_len own_some own_mono cell_lt heap_lt)
set_option linter.unusedVariables false
section
variable {base : Nat} {w w' w1 : World} {r : Nat} {rv ov : Value} {rb : Nat → Nat} {vs : Nat → Nat → Value} {X : Nat → Nat → List Pq} {S : St} {i e : Nat}
theorem Ro.net0 (h : Ro base w r rv ov rb vs X S) : ∃ a cap, rv = .slice a S.p cap ∧ w.cell? ⟨r, 0, none⟩ = some (.slice a S.p cap) := by
  obtain ⟨a, cap, hv⟩ := own_len h.rows
  exact ⟨a, cap, hv, by have := h.net.cell 0 rfl; rw [← hv]; exact this⟩
/-- a path's rows -/
theorem Ro.place (h : Ro base w r rv ov rb vs X S) (hi : i < S.p) : ∃ g cap, rv = .slice (some ⟨g, 0, none⟩) S.p cap ∧ w.cell? ⟨r, 0, none⟩ = some (.slice (some ⟨g, 0, none⟩) S.p cap) ∧ w.cell? ⟨g, i, none⟩ = some (.slice (some ⟨rb i, 0, none⟩) 2 2) ∧ g < w.heap.size ∧ rb i < w.heap.size ∧ r < w.heap.size := by
  obtain ⟨g, cap, hv, _, hg, _⟩ := own_some h.rows (by omega)
  have hr := h.rows
  rw [hv] at hr
  obtain ⟨cs, hcs⟩ := (h.row i hi).has
  refine ⟨g, cap, hv, by have := h.net.cell 0 rfl; rw [← hv]; exact this, ?_, hg, hcs.lt, h.net.lt⟩
  rw [hr.cellAt i (by omega), List.getElem?_map, List.getElem?_range hi]
  rfl
theorem rHas (h : Ro base w r rv ov rb vs X S) (hS : S.p ≤ 8) (en path : Int) : Calls Try.prog 50 #[.pointer (some ⟨r, 0, none⟩), .int .i64 en, .int .i64 path] w fun e w' => e = .returned (.bool (ok S en path)) ∧ w = w' := by
  obtain ⟨a, cap, _, c0⟩ := h.net0
  clear h
  cases hk : ok S en path with
  | true =>
    obtain ⟨⟨h1, h2⟩, h3, h4⟩ := ok_iff.1 hk
    clear hk
    by_cases h5 : en = 0
    · subst h5
      go_enter Try.func50, Try.ntmps50
      go_wp2
      go_ret
      refine ⟨?_, rfl⟩
      simp
      try omega
    · obtain rfl : en = 1 := by omega
      go_enter Try.func50, Try.ntmps50
      go_wp2
      go_ret
      refine ⟨?_, rfl⟩
      simp
      try omega
  | false =>
    have hn : ¬ ((0 ≤ en ∧ en < 2) ∧ 0 ≤ path ∧ path < (S.p : Int)) := fun hh => by rw [ok_iff.2 hh] at hk; cases hk
    clear hk
    by_cases h5 : en = 0
    · subst h5
      by_cases h6 : 0 ≤ path
      · have h7 : (S.p : Int) ≤ path := by omega
        go_enter Try.func50, Try.ntmps50
        go_wp2
        go_ret
        refine ⟨?_, rfl⟩
        simp
        try omega
      · have h7 : path < 0 := by omega
        go_enter Try.func50, Try.ntmps50
        go_wp2
        go_ret
        exact ⟨rfl, rfl⟩
    · by_cases h5' : en = 1
      · subst h5'
        by_cases h6 : 0 ≤ path
        · have h7 : (S.p : Int) ≤ path := by omega
          go_enter Try.func50, Try.ntmps50
          go_wp2
          go_ret
          refine ⟨?_, rfl⟩
          simp
          try omega
        · have h7 : path < 0 := by omega
          go_enter Try.func50, Try.ntmps50
          go_wp2
          go_ret
          exact ⟨rfl, rfl⟩
      · have h8 : (en == 0) = false := beq_eq_false_iff_ne.2 h5
        have h9 : (en == 1) = false := beq_eq_false_iff_ne.2 h5'
        go_enter Try.func50, Try.ntmps50
        go_wp2
        go_ret
        exact ⟨rfl, rfl⟩
theorem ok0 (S : St) (path : Int) : ok S 0 path = okP S path := by unfold ok okE; simp
/-- a row's cells -/
theorem Ro.at (h : Ro base w r rv ov rb vs X S) {en path : Int} (hp : ok S en path = true) : ∃ g cap gr n a c, w.cell? ⟨r, 0, none⟩ = some (.slice (some ⟨g, 0, none⟩) S.p cap) ∧ w.cell? ⟨g, path.toNat, none⟩ = some (.slice (some ⟨gr, 0, none⟩) 2 2) ∧ gr = rb path.toNat ∧ g < w.heap.size ∧ gr < w.heap.size ∧ r < w.heap.size ∧
    vs path.toNat en.toNat = .slice a n c ∧ n = (S.R path.toNat en.toNat).L.length ∧ w.cell? ⟨gr, en.toNat * 5, none⟩ = some (.slice a n c) ∧ w.cell? ⟨gr, en.toNat * 5 + 1, none⟩ = some (.int .i64 (S.R path.toNat en.toNat).T.s) ∧ w.cell? ⟨gr, en.toNat * 5 + 2, none⟩ = some (.int .i64 (S.R path.toNat en.toNat).T.d) ∧ w.cell? ⟨gr, en.toNat * 5 + 3, none⟩ = some (.int .i64 (S.R path.toNat en.toNat).T.l) ∧ w.cell? ⟨gr, en.toNat * 5 + 4, none⟩ = some (.int .i64 (S.R path.toNat en.toNat).T.f) ∧ ∀ k, w.frozen? ⟨gr, k, none⟩ = false := by
  obtain ⟨⟨h1, h2⟩, h3, h4⟩ := ok_iff.1 hp
  have hi : path.toNat < S.p := by omega
  have he : en.toNat < 2 := by omega
  obtain ⟨g, cap, hv, c0, c1, l1, l2, l3⟩ := h.place hi
  obtain ⟨a, c, hvs⟩ := own_len (h.own path.toNat en.toNat)
  have hr := h.row _ hi
  refine ⟨g, cap, rb path.toNat, _, a, c, c0, c1, rfl, l1, l2, l3, by rw [hvs, h.len], rfl, ?_, hr.cell he 1 rfl, hr.cell he 2 rfl, hr.cell he 3 rfl, hr.cell he 4 rfl, hr.frozen⟩
  have := hr.cell he 0 rfl
  rw [Nat.add_zero, hvs, h.len] at this
  exact this
theorem rAt (h : Ro base w r rv ov rb vs X S) (hI : Inv S) (hn : S.next ≤ 1000) (en path j : Int) : Calls Try.prog 48 #[.pointer (some ⟨r, 0, none⟩), .int .i64 en, .int .i64 path, .int .i64 j] w fun e w' => e = .returned (.int .i64 (trE S en path j)) ∧ w = w' := by
  have HS := hidden (rHas h hI.p en path)
  cases hp : ok S en path with
  | false =>
    rw [show trE S en path j = 90 by unfold trE; rw [hp]; rfl]
    rw [hp] at HS
    clear h hp
    go_enter Try.func48, Try.ntmps48
    go_wp2_with fail
    refine Calls.mono HS.out ?_
    rintro e w' ⟨rfl, rfl⟩
    go_wp2
    go_ret
    exact ⟨rfl, rfl⟩
  | true =>
    rw [hp] at HS
    obtain ⟨g, cap, gr, n, a, c, c0, c1, -, l1, l2, l3, -, hnn, d0, -⟩ := h.at hp
    have hl := (hI.rows path.toNat en.toNat).len
    obtain ⟨⟨h1, h2⟩, h3, h4⟩ := ok_iff.1 hp
    have e1 : trE S en path j = if 0 ≤ j ∧ j < (n : Int) then 0 else 91 := by unfold trE; rw [hp, hnn]; rfl
    rw [e1]
    rw [← hnn] at hl
    have hp8 := hI.p
    clear h hp e1 hnn hI
    by_cases q1 : j < 0
    · rw [if_neg (by omega)]
      go_enter Try.func48, Try.ntmps48
      go_wp2_with fail
      refine Calls.mono HS.out ?_
      rintro e w' ⟨rfl, rfl⟩
      go_wp2
      go_ret
      exact ⟨rfl, rfl⟩
    · by_cases q2 : j < (n : Int)
      · rw [if_pos (by omega)]
        go_enter Try.func48, Try.ntmps48
        go_wp2_with fail
        refine Calls.mono HS.out ?_
        rintro e w' ⟨rfl, rfl⟩
        go_wp2
        go_ret
        exact ⟨rfl, rfl⟩
      · rw [if_neg (by omega)]
        have q3 : (n : Int) ≤ j := by omega
        go_enter Try.func48, Try.ntmps48
        go_wp2_with fail
        refine Calls.mono HS.out ?_
        rintro e w' ⟨rfl, rfl⟩
        go_wp2
        go_ret
        exact ⟨rfl, rfl⟩
/-- whether a path is cut -/
theorem Ro.cutAt (h : Ro base w r rv ov rb vs X S) (hi : i < S.p) : ∃ g cap, ov = .slice (some ⟨g, 0, none⟩) S.p cap ∧ w.cell? ⟨r, 1, none⟩ = some (.slice (some ⟨g, 0, none⟩) S.p cap) ∧ w.cell? ⟨g, i, none⟩ = some (.bool (S.off i)) ∧ w.frozen? ⟨g, i, none⟩ = false ∧ g < w.heap.size := by
  obtain ⟨g, cap, hv, _, hg, _⟩ := own_some h.offs (by omega)
  have hr := h.offs
  rw [hv] at hr
  refine ⟨g, cap, hv, by have := h.net.cell 1 rfl; rw [← hv]; exact this, ?_, hr.frozenAt i, hg⟩
  rw [hr.cellAt i (by omega), List.getElem?_map, List.getElem?_range hi]
  rfl
theorem rWorks (h : Ro base w r rv ov rb vs X S) (path : Int) (hS : S.p ≤ 8) : Calls Try.prog 32 #[.pointer (some ⟨r, 0, none⟩), .int .i64 path] w fun e w' => e = .returned (.bool (okP S path && !(S.off path.toNat))) ∧ w = w' := by
  have HS := hidden (rHas h hS 0 path)
  rw [ok0] at HS
  cases hp : okP S path with
  | false =>
    rw [hp] at HS
    clear h hp
    go_enter Try.func32, Try.ntmps32
    go_wp2_with fail
    refine Calls.mono HS.out ?_
    rintro e w' ⟨rfl, rfl⟩
    go_wp2
    go_ret
    exact ⟨rfl, rfl⟩
  | true =>
    rw [hp] at HS
    obtain ⟨h3, h4⟩ : 0 ≤ path ∧ path < (S.p : Int) := of_decide_eq_true hp
    obtain ⟨g, cap, _, c1, c2, _⟩ := h.cutAt (i := path.toNat) (by omega)
    generalize S.off path.toNat = ob at c2
    clear h hp
    go_enter Try.func32, Try.ntmps32
    go_wp2_with fail
    refine Calls.mono HS.out ?_
    rintro e w' ⟨rfl, rfl⟩
    go_wp2
    go_ret
    simp
theorem rUp (h : Ro base w r rv ov rb vs X S) (path : Int) (hS : S.p ≤ 8) : Calls Try.prog 31 #[.pointer (some ⟨r, 0, none⟩), .int .i64 path] w fun e w' => e = .returned (.int .i64 (pE S path)) ∧ Ro base w' r rv ov rb vs X (upS S path) ∧ Kept TYr base w w' := by
  have HS := hidden (rHas h hS 0 path)
  rw [ok0] at HS
  unfold pE upS
  cases hp : okP S path with
  | false =>
    rw [hp] at HS
    have H := hidden h
    clear h hp
    go_enter Try.func31, Try.ntmps31
    go_wp2_with fail
    refine Calls.mono HS.out ?_
    rintro e w' ⟨rfl, rfl⟩
    go_wp2
    go_ret
    exact ⟨rfl, H.out, Kept.refl _ _ _⟩
  | true =>
    rw [hp] at HS
    obtain ⟨h3, h4⟩ : 0 ≤ path ∧ path < (S.p : Int) := of_decide_eq_true hp
    obtain ⟨g, cap, hv, c1, c2, c3, _⟩ := h.cutAt (i := path.toNat) (by omega)
    have H := hidden (h.setOff hv (i := path.toNat) (by omega) false)
    clear h hp hv
    go_enter Try.func31, Try.ntmps31
    go_wp2_with fail
    refine Calls.mono HS.out ?_
    rintro e w' ⟨rfl, rfl⟩
    go_wp2
    go_ret
    exact ⟨rfl, H.out⟩
theorem rTraffic_no (h : Ro base w r rv ov rb vs X S) {en path : Int} (hp : ok S en path = false) (hS : S.p ≤ 8) : Calls Try.prog 34 #[.pointer (some ⟨r, 0, none⟩), .int .i64 en, .int .i64 path] w fun e w' => e = .returned (.tuple #[tv zT, .int .i64 90]) ∧ Below w.heap.size w w' := by
  have hB : Below w.heap.size w (w.alloc (.cells #[.int .i64 0, .int .i64 0, .int .i64 0, .int .i64 0] 45)) := (Below.refl _ w).alloc (Nat.le_refl _) _
  have HS := hidden (rHas (h.later hB) hS en path)
  rw [hp] at HS
  clear h hp
  go_enter Try.func34, Try.ntmps34
  go_wp2_with fail
  refine Calls.mono HS.out ?_
  rintro e w' ⟨rfl, rfl⟩
  go_wp2
  refine bodyPost_ret (v := .tuple #[tv zT, .int .i64 90]) (by rw [results_cell_tmp rfl]; go_simp; rfl) rfl ⟨rfl, hB⟩
theorem rTraffic_ok (h : Ro base w r rv ov rb vs X S) {en path : Int} (hp : ok S en path = true) (hS : S.p ≤ 8) : Calls Try.prog 34 #[.pointer (some ⟨r, 0, none⟩), .int .i64 en, .int .i64 path] w fun e w' => e = .returned (.tuple #[tv (S.R path.toNat en.toNat).T, .int .i64 0]) ∧ Below w.heap.size w w' := by
  have hB : Below w.heap.size w (w.alloc (.cells #[.int .i64 0, .int .i64 0, .int .i64 0, .int .i64 0] 45)) := (Below.refl _ w).alloc (Nat.le_refl _) _
  have HS := hidden (rHas (h.later hB) hS en path)
  rw [hp] at HS
  obtain ⟨g, cap, gr, n, a, c, c0, c1, -, l1, l2, l3, -, -, d0, d1, d2, d3, d4, -⟩ := h.at hp
  obtain ⟨⟨h1, h2⟩, h3, h4⟩ := ok_iff.1 hp
  generalize (S.R path.toNat en.toNat).T = T at d1 d2 d3 d4 ⊢
  clear h hp
  go_enter Try.func34, Try.ntmps34
  go_wp2_with fail
  refine Calls.mono HS.out ?_
  rintro e w' ⟨rfl, rfl⟩
  go_wp2
  refine bodyPost_ret (v := .tuple #[tv T, .int .i64 0]) (by rw [results_cell_tmp rfl]; go_simp; rfl) rfl ⟨rfl, ?_⟩
  exact (Below.refl _ w).alloc (Nat.le_refl _) _
end
end Go.Proofs.Ytmogacccffkkbaa.Nt
