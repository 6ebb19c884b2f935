/-
  Push, whatever is pushed.
  Conditions: the queue lies in memory, the bytes can be read.
-/
import Derived.Test.YtfgoamfoddkafaaSqC
namespace Go.Proofs.Ytfgoamfoddkafaa.Sq
open Go.ChangeShapes Go.WideShapes Go.ChangeAt Go.RowKit
open Ba (hidden Has Only cell_lt heap_lt)
open Ow (Own)
set_option linter.unusedVariables false

theorem No.same {D : Nat → Prop} {w v : World} {t b : Nat} {vs : Nat → Value} {P : Nat → List RV} {S : St} (h : No D w t b vs P S) (hv : v.heap = w.heap) : No D v t b vs P S := by
  have hh : ∀ {b : Nat} {cs : Array Value} {t : TypeId}, Has w b cs t → Has v b cs t := fun {b cs t} h => by unfold Has; rw [hv]; exact h
  obtain ⟨cs, hc, hl⟩ := h.ln
  refine ⟨hh h.q, ⟨cs, hh hc, hl⟩, fun i hi => ?_, h.pr, fun i p hi hp => ?_, h.ap⟩
  · rcases h.rw_ i hi with h0 | ⟨g, off, cap, cur, e, h1, h2, r⟩
    · exact .inl h0
    · exact .inr ⟨g, off, cap, cur, e, h1, hh h2, r⟩
  · obtain ⟨g, off, cap, cur, e, hd, h2, r⟩ := h.by_ i p hi hp
    exact ⟨g, off, cap, cur, e, hd, hh h2, r⟩
theorem Cd.same {D F : Nat → Prop} {w v : World} {t : Nat} {S : St} (h : Cd D w t S F) (hv : v.heap = w.heap) : Cd D v t S F := by
  obtain ⟨hg, b, vs, P, hN, hF⟩ := h
  exact ⟨hg, b, vs, P, hN.same hv, hF⟩
theorem Mod.drewN (F : Nat → Prop) (w : World) (n : Nat) : Mod F w (w.drewN n) := ⟨rfl, rfl, rfl, Nat.le_refl _, fun _ _ _ => rfl⟩
theorem push_no {w : World} {p : Option Addr} (h : Un w p) (s pr : Int) (un : Bool) (d : Value) : Calls Try.prog 13 #[.pointer p, .int .u16 s, .int .u32 pr, .bool un, d] w fun e w' => e = .returned (.int .i64 4) ∧ w = w' := by
  have U := hidden (unmade_no h)
  clear h
  go_enter Try.func13, Try.ntmps13
  go_wp2_with fail
  refine Calls.mono U.out ?_
  rintro e w' ⟨rfl, rfl⟩
  go_wp2
  go_ret
  exact ⟨rfl, rfl⟩
section
variable {D F : Nat → Prop} {w w' : World} {t b : Nat} {vs : Nat → Value} {P : Nat → List RV} {S : St} {s pr : Int} {un : Bool} {a : Option Addr} {len cap : Nat}
theorem push_st (h : No D w t b vs P S) (hs : 0 ≤ s ∧ s < 65536) (h1 : (S.n : Int) ≤ s) : Calls Try.prog 13 #[.pointer (some ⟨t, 0, none⟩), .int .u16 s, .int .u32 pr, .bool un, .slice a len cap] w fun e w' => e = .returned (.int .i64 160) ∧ w = w' := by
  have U := hidden (unmade h)
  have H := hidden (has h s hs)
  rw [decide_eq_false (by omega)] at H
  clear h hs
  go_enter Try.func13, Try.ntmps13
  go_wp2_with fail
  refine Calls.mono U.out ?_
  rintro e w' ⟨rfl, rfl⟩
  go_wp2_with fail
  refine Calls.mono H.out ?_
  rintro e w' ⟨rfl, rfl⟩
  go_wp2
  go_ret
  exact ⟨rfl, rfl⟩
set_option maxRecDepth 20000 in
theorem push_long (h : No D w t b vs P S) (hs : 0 ≤ s ∧ s < 65536) (h1 : s < (S.n : Int)) (h2 : len < 1 ∨ 65536 < len) : Calls Try.prog 13 #[.pointer (some ⟨t, 0, none⟩), .int .u16 s, .int .u32 pr, .bool un, .slice a len cap] w fun e w' => e = .returned (.int .i64 2) ∧ w = w' := by
  have U := hidden (unmade h)
  have H := hidden (has h s hs)
  rw [decide_eq_true h1] at H
  clear h hs
  rcases (show len = 0 ∨ 65536 < len by omega) with rfl | h3
  · go_enter Try.func13, Try.ntmps13
    go_wp2_with fail
    refine Calls.mono U.out ?_
    rintro e w' ⟨rfl, rfl⟩
    go_wp2_with fail
    refine Calls.mono H.out ?_
    rintro e w' ⟨rfl, rfl⟩
    go_wp2
    go_ret
    exact ⟨rfl, rfl⟩
  · have e1 : ¬ ((len : Int) < 1) := by omega
    have e2 : (65536 : Int) < (len : Int) := by omega
    clear h2 h3
    go_enter Try.func13, Try.ntmps13
    go_wp2_with fail
    refine Calls.mono U.out ?_
    rintro e w' ⟨rfl, rfl⟩
    go_wp2_with fail
    refine Calls.mono H.out ?_
    rintro e w' ⟨rfl, rfl⟩
    go_wp2
    go_ret
    exact ⟨rfl, rfl⟩

set_option maxRecDepth 20000 in
theorem push_room (h : No D w t b vs P S) (hg : Good S) (hs : 0 ≤ s ∧ s < 65536) (h1 : s < (S.n : Int)) (h2 : 1 ≤ len) (h3 : len ≤ 65536) (h4 : S.lim - (S.wt + S.tk) < (len : Int)) : Calls Try.prog 13 #[.pointer (some ⟨t, 0, none⟩), .int .u16 s, .int .u32 pr, .bool un, .slice a len cap] w fun e w' => e = .returned (.int .i64 161) ∧ ∃ n, w.drewN n = w' := by
  have U := hidden (unmade h)
  have H := hidden (has h s hs)
  rw [decide_eq_true h1] at H
  have C : Hid (∀ v : World, v.heap = w.heap → Calls Try.prog 16 #[.pointer (some ⟨t, 0, none⟩)] v fun e w' => e = .returned (.int .i64 (S.wt + S.tk)) ∧ w' = v) := fun v hv => (held (h.same hv) hg).mono fun e w' h => ⟨h.1, h.2.symm⟩
  have c3 := h.q.cell 3 rfl
  have b1 := hg.h
  have b2 := hg.w1
  have b3 := hg.t0
  have b4 := hg.l2
  have e1 : ¬ ((len : Int) < 1) := by omega
  have e2 : ¬ ((65536 : Int) < (len : Int)) := by omega
  have hw : IntKind.i64.wrap (S.lim - (S.wt + S.tk)) = S.lim - (S.wt + S.tk) := by rw [IntKind.wrap_i64]; omega
  clear h hs hg
  generalize S.wt + S.tk = m at *
  go_enter Try.func13, Try.ntmps13
  go_wp2_with fail
  refine Calls.mono U.out ?_
  rintro e w' ⟨rfl, rfl⟩
  go_wp2_with fail
  refine Calls.mono H.out ?_
  rintro e w' ⟨rfl, rfl⟩
  go_wp2_with fail
  go_quiet (first | (go_at_call 16; exact Calls.quiet_of_same (C.out _ rfl)))
  go_wp2
  go_ret
  exact ⟨rfl, _, rfl⟩
/-- worlds while a message is pushed -/
structure PoA (D : Nat → Prop) (w1 : World) (t b : Nat) (vs : Nat → Value) (P : Nat → List RV) (S : St) (i : Nat) (pr : Int) (un : Bool) (zs : List Int) (k : Nat) (x : Value) (w' : World) : Prop where
  h0 : k = 0 → w' = w1.drew
  h1 : k = 1 → Mine w1.heap.size w' x zs ∧ Below w1.heap.size w1 w'
  h2 : k = 2 → ∃ vs' P', No D w' t b vs' P' ⟨S.n, S.lim, S.last, S.bgn, up S.R i (S.R i ++ [⟨i, 0, pr, un, zs, true⟩]), S.sn, S.wt, S.tk⟩ ∧ (∀ k, FC t b S.n vs' k → FC t b S.n vs k ∨ w1.heap.size ≤ k) ∧ Mod (FC t b S.n vs) w1 w'
theorem PoA.cell {w1 : World} {i : Nat} {zs : List Int} {k : Nat} {x : Value} (h : PoA D w1 t b vs P S i pr un zs k x w') (hN : No D w1 t b vs P S) (hk : k ≤ 1) : w'.cell? ⟨t, 0, none⟩ = some (.slice (some ⟨b, 0, none⟩) S.n S.n) := by
  rcases (show k = 0 ∨ k = 1 by omega) with e1 | e1
  · rw [h.h0 e1]; exact hN.q.cell 0 rfl
  · exact (hN.q.later (h.h1 e1).2).cell 0 rfl
theorem run_ix {i n : Nat} (hi : i < n) (w : World) : (Instr.indexAt 55 (.slice (some ⟨b, 0, none⟩) n n) (.int .u16 (i : Int))).run Try.prog w = .ok (.pointer (some ⟨b, i * 2, none⟩)) w := by
  simp [go_sem, hi]
theorem run_bm (i : Int) (pr : Int) (un : Bool) (a : Option Addr) (l c : Nat) (w : World) : (Instr.build 42 #[(0, .int .u16 i), (2, .int .u32 pr), (3, .bool un), (4, .slice a l c)]).run Try.prog w = .ok (mv i 0 pr un (.slice a l c)) w := by
  unfold mv
  kernel_rfl
theorem PoA.two {w1 w2 : World} {i : Nat} {zs : List Int} {x v' : Value} {cs : Array Value} (h : PoA D w1 t b vs P S i pr un zs 1 x w') (hN : No D w1 t b vs P S) (hi : i < S.n) (hD : ∀ k, w1.heap.size ≤ k → D k) (hz : 1 ≤ zs.length ∧ zs.length ≤ 65536)
    (hc : Has w' b cs 71) (hcs : ∀ j, j < S.n → cs[j * 2]? = some (vs j) ∧ cs[j * 2 + 1]? = some (.int .u16 (S.sn j)))
    (g1 : Rw w2 v' (P i ++ [⟨⟨i, 0, pr, un, zs, true⟩, x⟩])) (g2 : Has w2 b (cs.setIfInBounds (i * 2) v') 71) (g3 : Mod (fun k => k = b ∨ (vs i).ownBlock = some k) w' w2) (g4 : ∀ k, v'.ownBlock = some k → (vs i).ownBlock = some k ∨ w'.heap.size ≤ k) :
    PoA D w1 t b vs P S i pr un zs (1 + 1) x w2 := by
  obtain ⟨m1, m2⟩ := h.h1 rfl
  have hN' := hN.later m2
  have hin : i * 2 < cs.size := (Array.getElem?_eq_some_iff.1 (hcs i hi).1).1
  have hby : ∀ p ∈ P i ++ [⟨⟨i, 0, pr, un, zs, true⟩, x⟩], By D w2 p.v p.r.d := by
    have hst : ∀ k cur, D k → Has w' k cur 5 → ¬ (k = b ∨ (vs i).ownBlock = some k) := fun k cur _ hh hf => hf.elim (fun e => by subst e; exact hh.ne hc (by decide) rfl) (fun e => by
      obtain ⟨cu, hu⟩ := (hN'.rw_ i hi).obj e
      exact hh.ne hu (by decide) rfl)
    intro p hp
    rcases List.mem_append.1 hp with hp | hp
    · exact (hN'.by_ i p hi hp).stay g3 hst
    · rw [List.mem_singleton] at hp
      subst hp
      exact (By.of_own m1.1 m1.2.1 hz.1 hz.2 hD).stay g3 hst
  have hT := hN'.turn hi g3 (v' := v') (s' := S.sn i) (fun cs2 hc2 => by
    have e : cs2 = cs := by
      have e1 : w'.heap[b]? = some (.cells cs2 71 (0, 0)) := hc2
      have e2 : w'.heap[b]? = some (.cells cs 71 (0, 0)) := hc
      rw [e1] at e2
      cases e2
      rfl
    subst e
    refine ⟨_, g2, by rw [Array.getElem?_setIfInBounds, if_pos rfl, if_pos hin], ?_, fun j h1 h2 => ?_⟩
    · rw [Array.getElem?_setIfInBounds, if_neg (by omega)]; exact (hcs i hi).2
    · rw [Array.getElem?_setIfInBounds, if_neg (by omega)]) g1 hby g4
  rw [up_self, List.map_append, hN.pr i hi] at hT
  refine ⟨fun e => absurd e (by decide), fun e => absurd e (by decide), fun _ => ⟨up vs i v', _, hT, ?_, ?_⟩⟩
  · rintro k (rfl | rfl | ⟨j, hj, hk⟩)
    · exact .inl (.inl rfl)
    · exact .inl (.inr (.inl rfl))
    · by_cases e : j = i
      · subst e
        rw [up_same] at hk
        exact (g4 k hk).imp (fun h => .inr (.inr ⟨j, hj, h⟩)) (fun h => Nat.le_trans m2.size h)
      · rw [up_ne _ _ e] at hk
        exact .inl (.inr (.inr ⟨j, hj, hk⟩))
  · exact (Mod.of_below m2).trans g3 (fun k hk => .inl (hk.elim (fun e => .inr (.inl e)) (fun e => .inr (.inr ⟨i, hi, e⟩))))

set_option maxRecDepth 20000 in
set_option maxHeartbeats 1000000 in
theorem push_ok {i : Nat} {zs : List Int} (h : No D w t b vs P S) (hg : Good S) (hi : i < S.n) (hr : Row w a len zs) (h2 : 1 ≤ len) (h3 : len ≤ 65536) (h4 : ¬ S.lim - (S.wt + S.tk) < (len : Int)) (hD : ∀ k, w.heap.size ≤ k → D k) :
    Calls Try.prog 13 #[.pointer (some ⟨t, 0, none⟩), .int .u16 (i : Int), .int .u32 pr, .bool un, .slice a len cap] w fun e w' => e = .returned (.int .i64 0) ∧ (∃ vs' P', No D w' t b vs' P' (pushS S i pr un zs) ∧ (∀ k, FC t b S.n vs' k → FC t b S.n vs k ∨ w.heap.size ≤ k)) ∧ Mod (FC t b S.n vs) w w' := by
  have hn2 := hg.n2
  have U := hidden (unmade h)
  have H := hidden (has h (i : Int) (by omega))
  rw [decide_eq_true (by omega)] at H
  have C : Hid (∀ v : World, v.heap = w.heap → Calls Try.prog 16 #[.pointer (some ⟨t, 0, none⟩)] v fun e w' => e = .returned (.int .i64 (S.wt + S.tk)) ∧ w' = v) := fun v hv => (held (h.same hv) hg).mono fun e w' h => ⟨h.1, h.2.symm⟩
  have c3 := h.q.cell 3 rfl
  have b1 := hg.h
  have b2 := hg.w1
  have b3 := hg.t0
  have b4 := hg.l2
  have e1 : ¬ ((len : Int) < 1) := by omega
  have e2 : ¬ ((65536 : Int) < (len : Int)) := by omega
  have hw : IntKind.i64.wrap (S.lim - (S.wt + S.tk)) = S.lim - (S.wt + S.tk) := by rw [IntKind.wrap_i64]; omega
  have hw2 : IntKind.i64.wrap (S.wt + len) = S.wt + len := by rw [IntKind.wrap_i64]; omega
  obtain ⟨ab, ao, rfl⟩ := hr.open (by omega)
  have HN := hidden h
  have HI := hidden hi
  have HZ : Hid (1 ≤ zs.length ∧ zs.length ≤ 65536) := by rw [hr.1]; exact ⟨h2, h3⟩
  have HL0 : (P i).length ≤ 1073741824 := by
    have := hg.len hi
    rw [← h.pr i hi] at this
    simpa using this
  have HL := hidden HL0
  clear HL0
  have HRr := hidden hr
  have HLE := hidden hr.1
  have HDD := hidden hD
  have EC : Hid (∀ (args : Array Value) (w : World), (callFunc 31 args).run Try.prog w = .ok (.enter 31 args) w) := fun _ _ => by kernel_rfl
  have EP : Hid (∀ (args : Array Value) (w : World), (callFunc 30 args).run Try.prog w = .ok (.enter 30 args) w) := fun _ _ => by kernel_rfl
  clear h hg hr hD
  have HM : Hid (S.wt + S.tk = S.wt + S.tk) := rfl
  generalize S.wt + S.tk = m at C h4 hw b1
  go_enter Try.func13, Try.ntmps13
  go_wp2_with fail
  refine Calls.mono U.out ?_
  rintro e w' ⟨rfl, rfl⟩
  go_wp2_with fail
  refine Calls.mono H.out ?_
  rintro e w' ⟨rfl, rfl⟩
  go_wp2_with fail
  go_quiet (first | (go_at_call 16; exact Calls.quiet_of_same (C.out _ rfl)))
  obtain ⟨w1, hw1, hh1⟩ : ∃ w1, w.drewN nq = w1 ∧ Hid (w1.heap = w.heap ∧ Below w.heap.size w w1) := ⟨_, rfl, rfl, ⟨rfl, rfl, rfl, Nat.le_refl _, fun _ _ => rfl⟩⟩
  rw [hw1]
  clear hw1
  have HN1 := hidden (HN.out.same hh1.out.1)
  have CL : Hid (∀ v : World, v = w1.drew → Calls Try.prog 31 #[.slice (some ⟨ab, ao, none⟩) len cap] v fun e w' => ∃ x, e = .returned x ∧ Mine w1.heap.size w' x zs ∧ Below w1.heap.size w1 w') := fun v hv => by
    subst hv
    refine (clone (w := w1.drew) ((HRr.out.later hh1.out.2).later ⟨rfl, rfl, rfl, Nat.le_refl _, fun _ _ => rfl⟩) (by omega)).mono ?_
    rintro e w' ⟨x, rfl, hm, hB⟩
    exact ⟨x, rfl, hm, ⟨hB.os, hB.tape, hB.output, hB.size, hB.block⟩⟩
  have HD : Hid (∀ k, w1.heap.size ≤ k → D k) := fun k hk => HDD.out k (by rw [← hh1.out.1]; exact hk)
  go_upto_region 9 with fail
  refine Ord.wp_region_ex0 (X := Value) (by kernel_rfl) 61 (fun x => [(some 39, .pointer (some ⟨t, 0, none⟩)), (some 40, .pointer (some ⟨t, 0, none⟩)), (some 41, .pointer (some ⟨t, 0, none⟩)), (some 42, .slice (some ⟨b, 0, none⟩) S.n S.n), (some 43, .int .u16 (i : Int)), (some 44, .pointer (some ⟨b, i * 2, none⟩)), (some 45, .int .u16 (i : Int)), (some 46, .int .u32 pr), (some 47, .bool un), (some 48, .slice (some ⟨ab, ao, none⟩) len cap), (some 49, x), (some 50, mv (i : Int) 0 pr un x), (some 51, .tuple #[])]) [some 39, some 40, some 41, some 42, some 43, some 44, some 45, some 46, some 47, some 48, some 49, some 50, some 51] rfl (fun listed hsz hr => Ord.all_listedC (rank := [0, 1, 2, 3, 4, 5, 6, 7, 8, 9, 10, 11, 12]) (by kernel_rfl) hsz hr) (by rfl) (fun _ => rfl) (by kernel_rfl) (Rg.StM [10, 12] (fun k x w' => PoA D w1 t b vs P S i pr un zs k x w')) (fun _ _ _ _ hL h => h.ext (n := 13) (by decide) hL) ?_ ?_ undef ?_
  case refine_1 =>
    intro x Lq iq oq ac w' ho hi hcl hdep hF hW
    have f1 : ac.tmps.size = 61 := hF.1
    match iq, ho, hi, hdep with
    | 0, ho, hi, hdep =>
      cases ho
      have da0 : ac.eval (.tmp 0) = .pointer (some ⟨t, 0, none⟩) := hF.old 0 rfl
      exact Ord.ex_value x rfl rfl (Rg.mv da0 rfl) rfl (hW.keep (by decide))
    | 1, ho, hi, hdep =>
      cases ho
      have da0 : ac.eval (.tmp 39) = .pointer (some ⟨t, 0, none⟩) := hF.2.2.2 0 39 _ rfl (hdep ⟨0, .data⟩ (by simp) rfl)
      exact Ord.ex_value x rfl rfl (Rg.nilc da0 rfl) rfl (hW.keep (by decide))
    | 2, ho, hi, hdep =>
      cases ho
      have da0 : ac.eval (.tmp 40) = .pointer (some ⟨t, 0, none⟩) := hF.2.2.2 1 40 _ rfl (hdep ⟨1, .data⟩ (by simp) rfl)
      exact Ord.ex_value x rfl rfl (Rg.fa da0 rfl (by simp [go_sem])) rfl (hW.keep (by decide))
    | 3, ho, hi, hdep =>
      cases ho
      have da0 : ac.eval (.tmp 41) = .pointer (some ⟨t, 0, none⟩) := hF.2.2.2 2 41 _ rfl (hdep ⟨2, .data⟩ (by simp) rfl)
      obtain ⟨kq, hlo, hhi, hA⟩ := hW.range 0 1 (.inl rfl) (.inr ⟨12, rfl, (Rg.no_of (fun h => hcl 5 _ rfl (hcl 12 _ rfl (h) ⟨5, .data⟩ (by simp) rfl) ⟨3, .data⟩ (by simp) rfl) hi)⟩)
      exact Ord.ex_value x rfl rfl (Rg.load da0 rfl (by have := hA.cell HN1.out hhi; simp [go_sem, this])) rfl (hW.keep (by decide))
    | 4, ho, hi, hdep =>
      cases ho
      have da0 : ac.eval (.tmp 1) = .int .u16 (i : Int) := hF.old 1 rfl
      exact Ord.ex_value x rfl rfl (Rg.mv da0 rfl) rfl (hW.keep (by decide))
    | 5, ho, hi, hdep =>
      cases ho
      have da0 : ac.eval (.tmp 42) = .slice (some ⟨b, 0, none⟩) S.n S.n := hF.2.2.2 3 42 _ rfl (hdep ⟨3, .data⟩ (by simp) rfl)
      have da1 : ac.eval (.tmp 43) = .int .u16 (i : Int) := hF.2.2.2 4 43 _ rfl (hdep ⟨4, .data⟩ (by simp) rfl)
      exact Ord.ex_value x rfl rfl (Rg.ix da0 da1 rfl (run_ix HI.out _)) rfl (hW.keep (by decide))
    | 6, ho, hi, hdep =>
      cases ho
      have da0 : ac.eval (.tmp 1) = .int .u16 (i : Int) := hF.old 1 rfl
      exact Ord.ex_value x rfl rfl (Rg.mv da0 rfl) rfl (hW.keep (by decide))
    | 7, ho, hi, hdep =>
      cases ho
      have da0 : ac.eval (.tmp 2) = .int .u32 pr := hF.old 2 rfl
      exact Ord.ex_value x rfl rfl (Rg.mv da0 rfl) rfl (hW.keep (by decide))
    | 8, ho, hi, hdep =>
      cases ho
      have da0 : ac.eval (.tmp 3) = .bool un := hF.old 3 rfl
      exact Ord.ex_value x rfl rfl (Rg.mv da0 rfl) rfl (hW.keep (by decide))
    | 9, ho, hi, hdep =>
      cases ho
      have da0 : ac.eval (.tmp 4) = .slice (some ⟨ab, ao, none⟩) len cap := hF.old 4 rfl
      exact Ord.ex_value x rfl rfl (Rg.mv da0 rfl) rfl (hW.keep (by decide))
    | 10, ho, hi, hdep =>
      cases ho
      have da0 : ac.eval (.tmp 48) = .slice (some ⟨ab, ao, none⟩) len cap := hF.2.2.2 9 48 _ rfl (hdep ⟨9, .data⟩ (by simp) rfl)
      have hA := hW.at (k := 0) rfl hi (.inl rfl)
      have hw := hA.h0 rfl
      subst hw
      refine Rg.ex_calll x rfl rfl (Rg.enter (args := #[.slice (some ⟨ab, ao, none⟩) len cap]) rfl rfl (by simp [da0]) EC.out) (Calls.mono (CL.out _ rfl) ?_)
      rintro e w2 ⟨v, rfl, hm, hB⟩
      exact ⟨v, rfl, (fun j hj => match j, hj with | 0, _ => rfl | 1, _ => rfl | 2, _ => rfl | 3, _ => rfl | 4, _ => rfl | 5, _ => rfl | 6, _ => rfl | 7, _ => rfl | 8, _ => rfl | 9, _ => rfl | 10, hj => absurd hj (by rw [hi]; decide) | 11, hj => absurd hj (by rw [(Rg.no_of (fun h => hcl 11 _ rfl (h) ⟨10, .data⟩ (by simp) rfl) hi)]; decide) | 12, _ => rfl | _ + 13, _ => rfl), hW.next (k := 0) rfl (by decide) hi (.inl rfl) ⟨fun e => absurd e (by decide), fun _ => ⟨hm, hB⟩, fun e => absurd e (by decide)⟩⟩
    | 11, ho, hi, hdep =>
      cases ho
      have da0 : ac.eval (.tmp 45) = .int .u16 (i : Int) := hF.2.2.2 6 45 _ rfl (hdep ⟨6, .data⟩ (by simp) rfl)
      have da1 : ac.eval (.tmp 46) = .int .u32 pr := hF.2.2.2 7 46 _ rfl (hdep ⟨7, .data⟩ (by simp) rfl)
      have da2 : ac.eval (.tmp 47) = .bool un := hF.2.2.2 8 47 _ rfl (hdep ⟨8, .data⟩ (by simp) rfl)
      have da3 : ac.eval (.tmp 49) = x := hF.2.2.2 10 49 _ rfl (hdep ⟨10, .data⟩ (by simp) rfl)
      obtain ⟨kq, hlo, hhi, hA⟩ := hW.range 1 1 (.inr ⟨10, rfl, (hdep ⟨10, .data⟩ (by simp) rfl)⟩) (.inr ⟨12, rfl, (Rg.no_of (fun h => hcl 12 _ rfl (h) ⟨11, .data⟩ (by simp) rfl) hi)⟩)
      obtain ⟨m1, m2⟩ := hA.h1 (by omega)
      obtain ⟨xa, xc, hx, _⟩ := m1.row
      exact Ord.ex_value x rfl rfl (Rg.bld (ys := #[(0, .int .u16 (i : Int)), (2, .int .u32 pr), (3, .bool un), (4, x)]) rfl (by simp [da0, da1, da2, da3]) (by rw [hx]; exact run_bm (i : Int) pr un _ _ _ _)) rfl (hW.keep (by decide))
    | 12, ho, hi, hdep =>
      cases ho
      have da0 : ac.eval (.tmp 44) = .pointer (some ⟨b, i * 2, none⟩) := hF.2.2.2 5 44 _ rfl (hdep ⟨5, .data⟩ (by simp) rfl)
      have da1 : ac.eval (.tmp 50) = mv (i : Int) 0 pr un x := hF.2.2.2 11 50 _ rfl (hdep ⟨11, .data⟩ (by simp) rfl)
      have hA := hW.at (k := 1) rfl hi (.inr ⟨10, rfl, (hdep ⟨10, .chain⟩ (by simp) rfl)⟩)
      obtain ⟨m1, m2⟩ := hA.h1 rfl
      have hN' := HN1.out.later m2
      obtain ⟨cs, hc, hcs⟩ := hN'.ln
      obtain ⟨xa, xc, hx, _⟩ := m1.row
      refine Rg.ex_call x rfl rfl (Rg.enter (args := #[.pointer (some ⟨b, i * 2, none⟩), mv (i : Int) 0 pr un x]) rfl rfl (by simp [da0, da1]) EP.out) (Calls.mono (hx ▸ lane_push hc (hcs i HI.out).1 (hN'.rw_ i HI.out) (HL.out) (i : Int) 0 pr un xa zs.length xc zs) ?_)
      rintro e w2 ⟨rfl, v', g1, g2, g3, g4⟩
      exact ⟨rfl, hW.next (k := 1) rfl (by decide) hi (.inr ⟨10, rfl, (hdep ⟨10, .chain⟩ (by simp) rfl)⟩) (hA.two HN1.out HI.out HD.out HZ.out hc hcs g1 g2 g3 g4)⟩
  case refine_3 => exact Rg.StM.first ⟨fun _ => rfl, fun e => absurd e (by decide), fun e => absurd e (by decide)⟩
  case refine_2 =>
    intro x w2 hW
    obtain ⟨vs', P', g1, g2, g3⟩ := hW.last.h2 rfl
    have c4 := g1.q.cell 4 rfl
    have f4 := g1.q.frozen 4
    have G := hidden (⟨vs', P', g1, g2, g3⟩ : ∃ vs' P', No D w2 t b vs' P' _ ∧ (∀ k, FC t b S.n vs' k → FC t b S.n vs k ∨ w1.heap.size ≤ k) ∧ Mod (FC t b S.n vs) w1 w2)
    clear hW g1 g2 g3
    simp only [Ord.puts, Ord.prs]
    go_simp
    go_wp2
    go_ret
    obtain ⟨vs', P', g1, g2, g3⟩ := G.out
    have hs : w1.heap.size = w.heap.size := by rw [hh1.out.1]
    refine ⟨rfl, ⟨vs', ⟨P', ?_⟩, fun k hk => (g2 k hk).imp id (fun h => by omega)⟩, ?_⟩
    · have := g1.setQ (j := 4) (u := .int .i64 (S.wt + len)) (la := S.last) (bg := S.bgn) (wt := S.wt + len) (tk := S.tk) rfl
      unfold pushS
      rw [HLE.out]
      exact this
    · exact ((Mod.of_below hh1.out.2).trans g3 (fun k hk => .inl hk)).trans (Mod.setCell (F := FC t b S.n vs) w2 (p := ⟨t, 4, none⟩) (.inl rfl) _) (fun k hk => .inl hk)
end
theorem pushX {D F : Nat → Prop} {w : World} {t : Nat} {S : St} (h : Cd D w t S F) {s pr : Int} (hs : 0 ≤ s ∧ s < 65536) (hp : 0 ≤ pr ∧ pr < 4294967296) (un : Bool) {a : Option Addr} {len cap : Nat} {zs : List Int} (hr : Row w a len zs) (hD : ∀ k, w.heap.size ≤ k → D k) :
    Calls Try.prog 13 #[.pointer (some ⟨t, 0, none⟩), .int .u16 s, .int .u32 pr, .bool un, .slice a len cap] w fun e w' => e = .returned (.int .i64 (pushE S s zs)) ∧ (∃ F', Cd D w' t (if pushE S s zs = 0 then pushS S s.toNat pr un zs else S) F' ∧ ∀ k, F' k → F k ∨ w.heap.size ≤ k) ∧ Mod F w w' := by
  have h0 := h
  obtain ⟨hg, b, vs, P, hN, hF⟩ := h
  have hl := hr.1
  unfold pushE
  by_cases h1 : (S.n : Int) ≤ s
  · rw [if_pos h1]
    refine (push_st hN hs h1).mono ?_
    rintro e w' ⟨rfl, rfl⟩
    exact ⟨rfl, ⟨F, by rw [if_neg (by decide)]; exact h0, fun k hk => .inl hk⟩, Mod.refl _ _⟩
  · rw [if_neg h1]
    by_cases h2 : zs.length < 1 ∨ 65536 < zs.length
    · rw [if_pos h2]
      refine (push_long hN hs (by omega) (by rw [← hl]; exact h2)).mono ?_
      rintro e w' ⟨rfl, rfl⟩
      exact ⟨rfl, ⟨F, by rw [if_neg (by decide)]; exact h0, fun k hk => .inl hk⟩, Mod.refl _ _⟩
    · rw [if_neg h2]
      by_cases h3 : S.lim - (S.wt + S.tk) < zs.length
      · rw [if_pos h3]
        refine (push_room hN hg hs (by omega) (by omega) (by omega) (by rw [← hl]; exact h3)).mono ?_
        rintro e w' ⟨rfl, n, rfl⟩
        exact ⟨rfl, ⟨F, by rw [if_neg (by decide)]; exact h0.same rfl, fun k hk => .inl hk⟩, Mod.drewN _ _ _⟩
      · rw [if_neg h3]
        obtain ⟨i, rfl⟩ : ∃ i : Nat, s = i := ⟨s.toNat, by omega⟩
        refine (push_ok hN hg (by omega) hr (by omega) (by omega) (by rw [← hl]; exact h3) hD).mono ?_
        rintro e w' ⟨rfl, ⟨vs', P', g1, g2⟩, g3⟩
        refine ⟨rfl, ⟨FC t b S.n vs', ?_, fun k hk => (g2 k hk).imp (fun h => (hF k).2 h) id⟩, g3.mono (fun k hk => (hF k).2 hk)⟩
        rw [if_pos rfl, Int.toNat_natCast]
        exact ⟨hg.push (by omega) hp.1 hp.2 hr.2.1 (by omega) (by omega) (by omega), b, vs', P', g1, fun k => Iff.rfl⟩
end Go.Proofs.Ytfgoamfoddkafaa.Sq
