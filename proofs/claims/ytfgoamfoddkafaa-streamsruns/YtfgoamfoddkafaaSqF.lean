/-
  The next stream.
  Conditions: the queue lies in memory, or is nil, or was made by no call.
-/
import Derived.Test.YtfgoamfoddkafaaSqE
namespace Go.Proofs.Ytfgoamfoddkafaa.Sq
open Go.ChangeShapes Go.WideShapes Go.ChangeAt Go.RowKit Go.Shelf
open Ba (hidden Has cell_lt heap_lt)
set_option linter.unusedVariables false
attribute [local go_sem] Oper.semAt_some

theorem results_cells {fn : Func} {p u : Tmp} {ty tz : TypeId} (h : fn.results = #[.cell p ty, .cell u tz]) (tmps : Array Value) (P : Program) (w : World) :
    (results fn tmps).run P w =
      ((asAddr (tmps.getD p undef)).run P w).andThen fun a w₁ => ((loadVar ty a).run P w₁).andThen fun v w₂ => ((asAddr (tmps.getD u undef)).run P w₂).andThen fun b w₃ => ((loadVar tz b).run P w₃).andThen fun v' w₄ => .ok (.tuple #[v, v']) w₄ := by
  simp only [results, h]
  simp [Sem.run_bind, Result.andThen]
/-- the next stream as an answer -/
def nxV (S : St) : Value := .tuple #[.int .i64 (((nxt S).getD 0 : Nat) : Int), .bool (nxt S).isSome]
theorem next_no {w : World} {p : Option Addr} (h : Un w p) : Calls Try.prog 32 #[.pointer p] w fun e w' => e = .returned (.tuple #[.int .i64 0, .bool false]) ∧ Below w.heap.size w w' := by
  refine (callsIn_wide (n := 10)).1 ?_
  obtain ⟨W0, hW0⟩ : ∃ W0, W0 = ((w.alloc (.cells #[.pointer p] 23)).alloc (.cells #[.int .i64 0] 3)).alloc (.cells #[.bool false] 4) := ⟨_, rfl⟩
  have hB0 : Below w.heap.size w W0 := by rw [hW0]; exact (((Below.refl _ w).alloc (Nat.le_refl _) _).alloc (by simp) _).alloc (by simp; omega) _
  have hU : Un W0 p := by
    rcases h with rfl | ⟨t, rfl, hc⟩
    · exact .inl rfl
    · exact .inr ⟨t, rfl, (hB0.cell (p := ⟨t, 0, none⟩) (cell_lt hc)).trans hc⟩
  have U := hidden (unmade_no hU)
  have HW0 := hidden hW0
  have HB0 := hidden hB0
  have hx1 : Boxed W0 (w.heap.size + 1) 3 (.int .i64 0) := by
    rw [hW0]
    have := Boxed.new (w.alloc (.cells #[.pointer p] 23)) 3 (.int .i64 0)
    rw [World.size_alloc] at this
    exact this.alloc _
  have hx2 : Boxed W0 (w.heap.size + 2) 4 (.bool false) := by
    rw [hW0]
    have := Boxed.new ((w.alloc (.cells #[.pointer p] 23)).alloc (.cells #[.int .i64 0] 3)) 4 (.bool false)
    rw [World.size_alloc, World.size_alloc] at this
    exact this
  have d1 := hx1.cell
  have d2 := hx2.cell
  have e1 := hx1.frozen
  have e2 := hx2.frozen
  clear h hU hW0 hB0
  refine callsIn_of_wp_marks Try.func32 rfl trivial ?_ rfl
  simp only [Try.ntmps32, List.size_toArray, List.length_cons, List.length_nil, Nat.reduceAdd, Nat.reduceSub, Array.replicate_succ, Array.replicate_zero, List.push_toArray, List.append_toArray, List.nil_append, List.cons_append]
  gi_wp2_with fail
  rw [← HW0.out]
  refine ⟨trivial, (callsIn_wide.2 U.out).mono ?_⟩
  rintro e w' ⟨rfl, rfl⟩
  gi_wp2
  refine ⟨_, ?_, rfl, ?_⟩
  · rw [results_cells rfl]
    go_simp
  · exact (HB0.out.setCell (p := ⟨w.heap.size + 1, 0, none⟩) (by simp) _).setCell (p := ⟨w.heap.size + 2, 0, none⟩) (by simp) _
section
variable {D : Nat → Prop} {w : World} {t b : Nat} {vs : Nat → Value} {P : Nat → List RV} {S : St}
set_option maxHeartbeats 1000000 in
theorem next_in (h : No D w t b vs P S) (hg : Good S) : CallsIn Fence.wide 10 Try.prog 32 #[.pointer (some ⟨t, 0, none⟩)] w fun e w' => e = .returned (nxV S) ∧ Below w.heap.size w w' := by
  obtain ⟨W0, hW0⟩ : ∃ W0, W0 = ((w.alloc (.cells #[.pointer (some ⟨t, 0, none⟩)] 23)).alloc (.cells #[.int .i64 0] 3)).alloc (.cells #[.bool false] 4) := ⟨_, rfl⟩
  have hB0 : Below w.heap.size w W0 := by rw [hW0]; exact (((Below.refl _ w).alloc (Nat.le_refl _) _).alloc (by simp) _).alloc (by simp; omega) _
  have hN0 := h.later hB0
  have U := hidden (unmade hN0)
  have RO := hidden (round hN0 hg)
  have HN0 := hidden hN0
  have HW0 := hidden hW0
  have HB0 := hidden hB0
  have hsz : W0.heap.size = w.heap.size + 3 := by rw [hW0]; simp
  have hx0 : Boxed W0 w.heap.size 23 (.pointer (some ⟨t, 0, none⟩)) := by
    rw [hW0]
    exact ((Boxed.new w 23 _).alloc _).alloc _
  have hx1 : Boxed W0 (w.heap.size + 1) 3 (.int .i64 0) := by
    rw [hW0]
    have := Boxed.new (w.alloc (.cells #[.pointer (some ⟨t, 0, none⟩)] 23)) 3 (.int .i64 0)
    rw [World.size_alloc] at this
    exact this.alloc _
  have hx2 : Boxed W0 (w.heap.size + 2) 4 (.bool false) := by
    rw [hW0]
    have := Boxed.new ((w.alloc (.cells #[.pointer (some ⟨t, 0, none⟩)] 23)).alloc (.cells #[.int .i64 0] 3)) 4 (.bool false)
    rw [World.size_alloc, World.size_alloc] at this
    exact this
  have d0 := hx0.cell
  have HX := hidden (And.intro hx0 (And.intro hx1 hx2))
  have htl := h.q.lt
  have HG := hidden hg
  have HSZ := hidden hsz
  clear h hN0 hW0 hB0 hx0 hx1 hx2 hg hsz
  refine callsIn_of_wp_marks Try.func32 rfl trivial ?_ rfl
  simp only [Try.ntmps32, List.size_toArray, List.length_cons, List.length_nil, Nat.reduceAdd, Nat.reduceSub, Array.replicate_succ, Array.replicate_zero, List.push_toArray, List.append_toArray, List.nil_append, List.cons_append]
  gi_wp2_with fail
  rw [← HW0.out]
  refine ⟨trivial, (callsIn_wide.2 U.out).mono ?_⟩
  rintro e w' ⟨rfl, rfl⟩
  gi_wp2_with fail
  refine ⟨trivial, (callsIn_wide.2 RO.out).mono ?_⟩
  rintro e W2 ⟨b1, b2, rfl, ⟨hl1, hl2⟩, q1, q2, hB2⟩
  have HQ := hidden (And.intro q1 q2)
  have HB2 := hidden hB2
  have HL := hidden (And.intro hl1 hl2)
  have HX2 : Hid (Boxed W2 w.heap.size 23 (.pointer (some ⟨t, 0, none⟩)) ∧ Boxed W2 (w.heap.size + 1) 3 (.int .i64 0) ∧ Boxed W2 (w.heap.size + 2) 4 (.bool false)) := (And.intro (hB2.block w.heap.size (HX.out.1).lt |>.trans HX.out.1) (And.intro (hB2.block (w.heap.size + 1) (HX.out.2.1).lt |>.trans HX.out.2.1) (hB2.block (w.heap.size + 2) (HX.out.2.2).lt |>.trans HX.out.2.2)))
  clear q1 q2 hB2 hl1 hl2
  gi_wp2_with fail
  have hN2 := HN0.out.later HB2.out
  have hg := HG.out
  refine range_round (n₀ := W2.heap.size) (t := t) (b := b) (b1 := b1) (b2 := b2) (n := S.n) (f := fst S) hg.n1 hg.n2 (by unfold fst; have := hg.lt; have := hg.n2; split <;> omega) rfl
    ⟨HQ.out.1.cell 0 rfl, HQ.out.2.cell 0 rfl, hN2.q.cell 0 rfl⟩ HQ.out.1.lt HQ.out.2.lt hN2.q.lt (Nat.le_refl _)
    (fun k W => Below W2.heap.size W2 W ∧ ∀ j, j < k → S.R (od S j) = [])
    (fun W => ∃ k, k < S.n ∧ (∀ j, j < k → S.R (od S j) = []) ∧ S.R (od S k) ≠ [] ∧ Boxed W (w.heap.size + 1) 3 (.int .i64 (od S k : Int)) ∧ Boxed W (w.heap.size + 2) 4 (.bool true) ∧ Below w.heap.size w W)
    (fun k W W' hh hc => ⟨hc.below (Nat.le_refl _) hh.1 (Nat.le_refl _), hh.2⟩)
    (fun W W' hh hc => by
      obtain ⟨k, h1, h2, h3, h4, h5, h6⟩ := hh
      exact ⟨k, h1, h2, h3, boxed_calm h4 hc, boxed_calm h5 hc, hc.below (by have := HB2.out.size; have := HSZ.out; omega) h6 (Nat.le_refl _)⟩)
    ⟨Below.refl _ _, fun j hj => absurd hj (Nat.not_lt_zero _)⟩
    (fun k a' W => a' = { tmps := #[.pointer (some ⟨t, 0, none⟩), .pointer (some ⟨w.heap.size, 0, none⟩), .pointer (some ⟨w.heap.size + 1, 0, none⟩), .pointer (some ⟨w.heap.size + 1 + 1, 0, none⟩), .int .i64 (od S k : Int), .pointer (some ⟨t, 0, none⟩), .bool false, .pointer (some ⟨t, 0, none⟩), rfn b1 b2, .int .i64 (od S k : Int), undef, undef, undef, undef, undef, undef, undef, undef, undef, undef, undef], defers := [] })
    (fun k a' W W' hh hc => hh)
    ?assign ?body ?done ?stop
  case assign =>
    intro l k W K hk hi hK
    gi_wp2
    exact hK _ _ (KeepsFrom.refl _ _) (Below.refl _ _) hi rfl
  case body =>
    rintro l k a' W hk ⟨hB, hem⟩ rfl
    have hN := hN2.later hB
    have hod : od S k < S.n := od_lt hg.n1 k
    obtain ⟨cs, hc, hlc⟩ := hN.ln
    have cv := hc.cell (od S k * 2) (hlc _ hod).1
    obtain ⟨va, vc, hv⟩ := (hN.rw_ _ hod).slice
    have hpr := hN.pr _ hod
    have hlen : (P (od S k)).length = (S.R (od S k)).length := by rw [← hpr]; simp
    rw [hlen] at hv
    rw [hv] at cv
    have c0 := hN.q.cell 0 rfl
    have y0 : Boxed W w.heap.size 23 (.pointer (some ⟨t, 0, none⟩)) := (hB.block _ HX2.out.1.lt).trans HX2.out.1
    have y1 : Boxed W (w.heap.size + 1) 3 (.int .i64 0) := (hB.block _ HX2.out.2.1.lt).trans HX2.out.2.1
    have y2 : Boxed W (w.heap.size + 2) 4 (.bool false) := (hB.block _ HX2.out.2.2.lt).trans HX2.out.2.2
    have z0 := y0.cell
    have z1 := y1.cell
    have z2 := y2.cell
    have f1 := y1.frozen
    have f2 := y2.frozen
    have HY := hidden (And.intro y1 y2)
    have HBW : Hid (Below w.heap.size w W) := (HB0.out.trans (HB2.out.mono (by have := HSZ.out; omega))).trans (hB.mono (by have := HB2.out.size; have := HSZ.out; omega))
    have HBB := hidden hB
    have HEM := hidden hem
    have HOD : Hid (∃ o, o = od S k) := ⟨_, rfl⟩
    obtain ⟨o, ho⟩ := HOD
    by_cases hm : S.R (od S k) = []
    · rw [hm] at cv
      have cv' : W.cell? ⟨b, o * 2, none⟩ = some (.slice va 0 vc) := by rw [ho]; exact cv
      have ho2 : o < S.n := by rw [ho]; exact hod
      have HM := hidden hm
      rw [← ho]
      clear cv hv hlen hpr hc hlc hN hod y0 y1 y2 hB hem hm ho HN0
      gi_wp2
      exact ⟨KeepsFrom.refl _ _, Below.refl _ _, HBB.out, fun j hj => by
        rcases Nat.lt_or_ge j k with h | h
        · exact HEM.out j h
        · obtain rfl : j = k := by omega
          exact HM.out⟩
    · obtain ⟨m, hm1⟩ : ∃ m, (S.R (od S k)).length = m + 1 := ⟨(S.R (od S k)).length - 1, by have := List.length_pos_iff.2 hm; omega⟩
      rw [hm1] at cv
      have cv' : W.cell? ⟨b, o * 2, none⟩ = some (.slice va (m + 1) vc) := by rw [ho]; exact cv
      have ho2 : o < S.n := by rw [ho]; exact hod
      have HM := hidden hm
      have HO := hidden ho
      rw [← ho]
      clear cv hv hlen hpr hc hlc hN hod y0 y1 y2 hB hem hm ho HN0 hm1
      gi_wp2
      refine ⟨((KeepsOthers.setCell _ _ _).trans (KeepsOthers.setCell _ _ _)).from _, k, hk, HEM.out, HM.out, ?_, ?_, ?_⟩
      · rw [← HO.out]
        exact (HY.out.1.set _).other (by omega) _
      · exact (HY.out.2.other (by omega) _).set _
      · exact (HBW.out.setCell (p := ⟨w.heap.size + 1, 0, none⟩) (by simp) _).setCell (p := ⟨w.heap.size + 2, 0, none⟩) (by simp) _
  case done =>
    rintro D W hD ⟨hB, hem⟩ hdef
    have y1 : Boxed W (w.heap.size + 1) 3 (.int .i64 0) := (hB.block _ HX2.out.2.1.lt).trans HX2.out.2.1
    have y2 : Boxed W (w.heap.size + 2) 4 (.bool false) := (hB.block _ HX2.out.2.2.lt).trans HX2.out.2.2
    have z1 := y1.cell
    have z2 := y2.cell
    have f1 := y1.frozen
    have f2 := y2.frozen
    have HE : Hid (nxt S = none) := nxt_end hem
    have HBW : Hid (Below w.heap.size w W) := (HB0.out.trans (HB2.out.mono (by have := HSZ.out; omega))).trans (hB.mono (by have := HB2.out.size; have := HSZ.out; omega))
    have HY := hidden (And.intro y1 y2)
    clear y1 y2 hB hem
    gi_wp2
    have hdef' : ((W.setCell ⟨w.heap.size + 1, 0, none⟩ (.int .i64 0)).setCell ⟨w.heap.size + 1 + 1, 0, none⟩ (.bool false)).heap[D]? = some (.deferred (some [])) := ((KeepsOthers.setCell _ _ _).trans (KeepsOthers.setCell _ _ _)).same D _ hdef rfl
    refine ⟨by simp, .inl ⟨_, _, rfl, run_takeDeferred hdef', ?_⟩⟩
    have hc := Calm.put (B := W2.heap.size) (.deferred none) hD hdef' rfl
    have k1 := (boxed_calm ((HY.out.1.set (.int .i64 0)).other (B' := w.heap.size + 1 + 1) (by omega) (.bool false)) hc).cell
    have k2 := (boxed_calm ((HY.out.2.other (B' := w.heap.size + 1) (by omega) (.int .i64 0)).set (.bool false)) hc).cell
    refine ⟨.tuple #[.int .i64 0, .bool false], ?_, ?_, ?_⟩
    · rw [results_cells rfl]
      simp [go_sem, k1, k2]
    · unfold nxV
      rw [HE.out]
      rfl
    · exact hc.below (by have := HB2.out.size; have := HSZ.out; omega) ((HBW.out.setCell (p := ⟨w.heap.size + 1, 0, none⟩) (by simp) _).setCell (p := ⟨w.heap.size + 1 + 1, 0, none⟩) (by simp; omega) _) (Nat.le_refl _)
  case stop =>
    rintro D W hD ⟨k, hk, hem, hne, y1, y2, hbw⟩ hdef
    have HE : Hid (nxt S = some (od S k)) := nxt_at hk hem hne
    have HY := hidden (And.intro y1 y2)
    have HBW := hidden hbw
    clear y1 y2 hem hne hbw
    gi_wp2
    refine ⟨by simp, .inl ⟨_, _, rfl, run_takeDeferred hdef, ?_⟩⟩
    have hc := Calm.put (B := W2.heap.size) (.deferred none) hD hdef rfl
    have k1 := (boxed_calm HY.out.1 hc).cell
    have k2 := (boxed_calm HY.out.2 hc).cell
    refine ⟨.tuple #[.int .i64 (od S k : Int), .bool true], ?_, ?_, ?_⟩
    · rw [results_cells rfl]
      simp [go_sem, k1, k2]
    · unfold nxV
      rw [HE.out]
      rfl
    · exact hc.below (by have := HB2.out.size; have := HSZ.out; omega) HBW.out (Nat.le_refl _)
theorem next (h : No D w t b vs P S) (hg : Good S) : Calls Try.prog 32 #[.pointer (some ⟨t, 0, none⟩)] w fun e w' => e = .returned (nxV S) ∧ Below w.heap.size w w' := callsIn_wide.1 (next_in h hg)
end
end Go.Proofs.Ytfgoamfoddkafaa.Sq
